/-
  The walk of the law of StepsFor.
-/
import Derived.Test.YtlbmjpkkomdhhaaDraws
import Derived.Test.YtlbmjpkkomdhhaaSteps
namespace Go.Proofs.Ytlbmjpkkomdhhaa
open Go.RowKit
set_option linter.unusedVariables false
set_option maxRecDepth 20000

namespace Tic
theorem stp_tab2 : ∀ n : Fin 13, 1 ≤ n.val → (3 ^ (2 * n.val) ≤ 2 ^ (2 * stp 3 n.val + 1) ∧ 2 ^ (2 * stp 3 n.val) < 2 * 3 ^ (2 * n.val) ∧ (n.val < 12 → stp 3 n.val < stp 3 (n.val + 1))) ∧ (5 ^ (2 * n.val) ≤ 2 ^ (2 * stp 5 n.val + 1) ∧ 2 ^ (2 * stp 5 n.val) < 2 * 5 ^ (2 * n.val) ∧ (n.val < 12 → stp 5 n.val < stp 5 (n.val + 1))) := by decide +kernel
end Tic
/-- a number of tones and a prime -/
theorem drawStepsFor (x : Option Addr) (len cap : Nat) (w : World) (h : Code w x len cap) : Calls Try.prog 4 #[.slice x len cap] w fun e w' => ∃ n m : Int, e = .returned (.tuple #[.int .i64 n, .int .i64 m]) ∧ 0 ≤ n ∧ n ≤ 13 ∧ 2 ≤ m ∧ m ≤ 7 ∧ Below w.heap.size w w' := by
  obtain ⟨zs, h1, h2, h3⟩ := h
  go_enter Try.func4, Try.ntmps4
  go_wp2_with fail
  refine (newReader_any _ _ _ _ _ h1 h2 h3).mono ?_; rintro e w1 ⟨rfl, hrd, hb, hlt⟩
  have HB := Lib.hid hb
  clear hb
  go_wp2_with fail
  refine (one_lit [12, 7, 5, 1, 2, 10, 0, 13] _ _ 0 13 _ _ _ rfl rfl hrd (by omega) (by decide) (by decide) (by decide)).mono ?_; rintro e w3 ⟨y, p', rfl, y0, y1, hp', hrd2, hgr⟩
  have HB2 := Lib.hid (below_grown HB.out hgr)
  clear hrd hgr HB
  go_wp2_with fail
  refine (one_lit [3, 5, 3, 5, 2, 7] _ _ 2 7 _ _ _ rfl rfl hrd2 (by omega) (by decide) (by decide) (by decide)).mono ?_; rintro e w6 ⟨z, q2', rfl, z0, z1, hq2', hrd5, hgr⟩
  have hB := below_grown HB2.out hgr
  go_wp2_with fail
  go_ret2
  exact ⟨_, _, rfl, y0, y1, z0, z1, hB⟩
theorem lpow_any (n : Nat) (w : World) (hn : n ≤ 58) :
    Calls Try.prog 7 #[.int .i64 n] w fun e w' => e = .returned (.int .i64 ((2 ^ n : Nat) : Int)) ∧ w = w' := by
  have hf : Fits (2 ^ n) := by
    have : 2 ^ n ≤ 2 ^ 58 := Nat.pow_le_pow_right (by decide) hn
    unfold Fits; exact Nat.lt_of_le_of_lt this (by decide)
  have HF := Lib.hid hf
  generalize hR : 2 ^ n = R
  have HR := Lib.hid hR
  clear hf hR
  go_enter Try.func7, Try.ntmps7
  go_wp2
  go_loop [0, 3] (fun t0 t3 => ∃ k P : Nat, k ≤ n ∧ t0 = .int .i64 k ∧ t3 = .int .i64 P ∧ Hid (P * 2 ^ k = 2 ^ n)) (fun t0 _ => (intOf t0).toNat)
  case atStart => exact ⟨n, 1, Nat.le_refl _, rfl, rfl, Nat.one_mul _⟩
  case round =>
    obtain ⟨k, P, hk, rfl, rfl, hP⟩ := hrel
    by_cases hlt : 0 < k
    · obtain ⟨j, rfl⟩ : ∃ j, k = j + 1 := ⟨k - 1, by omega⟩
      have hb := fits_step (x := 2) (by decide) hP.out HF.out
      have HN := Lib.hid (next_step hP.out)
      unfold Fits at hb
      have hq : 2 * (P : Int) = ((2 * P : Nat) : Int) := by omega
      generalize 2 * P = Q at hb HN hq
      go_wp2
      go_round
      case rel => exact ⟨j, Q, by omega, by go_num, rfl, HN⟩
      case measure => simp [intOf]
    · have : k = 0 := by omega
      subst this
      go_wp2
      go_ret
      have h3 := hP.out
      rw [Nat.pow_zero, Nat.mul_one] at h3
      exact ⟨ret_int (congrArg Int.ofNat (h3.trans HR.out)), rfl⟩
set_option maxHeartbeats 1000000 in
theorem FnStepsFor_walk (x : Option Addr) (len cap : Nat) (w : World) (h : Code w x len cap) :
    Calls Try.prog 3 #[.slice x len cap] w fun e w' => e = .returned (.bool true) ∧ Below w.heap.size w w' := by
  by_cases hl : len ≤ 1048576
  · have HD := Lib.hid (drawStepsFor x len cap w h)
    clear h
    go_enter Try.func3, Try.ntmps3
    go_wp2_with fail
    refine HD.out.mono ?_; rintro e w1 ⟨n, p, rfl, n0, n1, p0, p1, hb⟩
    have HB := Lib.hid hb
    clear hb
    have HI := Lib.hid (fun w => iStepsFor_any n p w)
    have HS := Lib.hid (fun w => sStepsFor_any n p w)
    by_cases hn : (1 ≤ n ∧ n ≤ 12) ∧ (p = 3 ∨ p = 5)
    · obtain ⟨⟨h1, h2⟩, hp⟩ := hn
      obtain ⟨N, rfl⟩ := Int.eq_ofNat_of_zero_le (show 0 ≤ n by omega)
      obtain ⟨P, rfl⟩ := Int.eq_ofNat_of_zero_le (show 0 ≤ p by omega)
      have hP : P = 3 ∨ P = 5 := by omega
      have hst : stpI N P = (Tic.stp P N : Int) := by unfold stpI; rw [if_pos ⟨h1, h2, hp⟩]; rfl
      rw [hst] at HI HS
      have hbd := Tic.stp_le hP (n := N) (by omega)
      have hft : Fits (P ^ (2 * N)) := by unfold Fits; exact Nat.lt_of_le_of_lt hbd.2 (by decide)
      have htab : P ^ (2 * N) ≤ 2 ^ (2 * Tic.stp P N + 1) ∧ 2 ^ (2 * Tic.stp P N) < 2 * P ^ (2 * N) ∧ (N < 12 → Tic.stp P N < Tic.stp P (N + 1)) := by
        have := Tic.stp_tab2 ⟨N, by omega⟩ (by simp only; omega)
        rcases hP with rfl | rfl
        · exact this.1
        · exact this.2
      obtain ⟨t1, t2, t3⟩ := htab
      have HP1 := Lib.hid (fun w => lpow_any (2 * Tic.stp P N + 1) w (by omega))
      have HP2 := Lib.hid (fun w => lpow_any (2 * Tic.stp P N) w (by omega))
      have c1 : ((2 * Tic.stp P N + 1 : Nat) : Int) = 2 * (Tic.stp P N : Int) + 1 := by omega
      have c2 : ((2 * Tic.stp P N : Nat) : Int) = 2 * (Tic.stp P N : Int) := by omega
      rw [c1] at HP1
      rw [c2] at HP2
      have HNX : Hid (N < 12 → ∃ T' : Nat, Tic.stp P N < T' ∧ T' ≤ 28 ∧ ∀ w, Calls Try.prog 5 #[.int .i64 ((N : Int) + 1), .int .i64 P] w fun e w' => e = .returned (.int .i64 (T' : Int)) ∧ w = w') := Lib.hid (fun hlt => by
        refine ⟨Tic.stp P (N + 1), t3 hlt, (Tic.stp_le hP (n := N + 1) (by omega)).1, fun w => ?_⟩
        have := iStepsFor_any ((N : Int) + 1) P w
        have e : stpI ((N : Int) + 1) P = (Tic.stp P (N + 1) : Int) := by unfold stpI; rw [if_pos ⟨by omega, by omega, hp⟩, show ((N : Int) + 1).toNat = N + 1 by omega]; rfl
        rwa [e] at this)
      have HF := Lib.hid hft
      have y1 : 2 ^ (2 * Tic.stp P N + 1) = 2 * 2 ^ (2 * Tic.stp P N) := by rw [Nat.pow_succ, Nat.mul_comm]
      have HX : Hid (∃ X, X = P ^ (2 * N)) := ⟨_, rfl⟩
      obtain ⟨X, hX⟩ := HX.out
      have HXE := Lib.hid hX
      rw [← hX] at t1 t2
      have hXf : X < 1152921504606846976 := by rw [hX]; exact hft
      have hT28 := hbd.1
      clear hst t3 c1 c2 hbd hft hX
      rw [y1] at t1 HP1
      clear y1
      generalize 2 ^ (2 * Tic.stp P N) = Y at *
      generalize Tic.stp P N = T at *
      have hPp : 0 < P := by omega
      have hYl : Y < 2305843009213693952 := by omega
      clear hp
      go_wp2_with fail
      refine (HI.out _).mono ?_; rintro e w2 ⟨rfl, rfl⟩
      go_wp2_with fail
      refine (HS.out _).mono ?_; rintro e w3 ⟨rfl, rfl⟩
      go_wp2_with fail
      go_loop [6, 7] (fun t6 t7 => ∃ i k Q : Nat, i + k = 2 * N ∧ t7 = .int .i64 i ∧ t6 = .int .i64 Q ∧ Hid (Q * P ^ k = P ^ (2 * N))) (fun _ t7 => 2 * N - (intOf t7).toNat)
      case atStart => exact ⟨0, 2 * N, 1, by omega, rfl, rfl, Nat.one_mul _⟩
      case round =>
        obtain ⟨i, k, Q, hk, rfl, rfl, hQ⟩ := hrel
        by_cases hlt : 0 < k
        · obtain ⟨j, rfl⟩ : ∃ j, k = j + 1 := ⟨k - 1, by omega⟩
          have hb := fits_step hPp hQ.out HF.out
          have HN := Lib.hid (next_step hQ.out)
          unfold Fits at hb
          have hq : (Q : Int) * (P : Int) = ((P * Q : Nat) : Int) := by rw [Nat.mul_comm, Int.natCast_mul]
          generalize P * Q = R at hb HN hq
          go_wp2
          go_round
          case rel => exact ⟨i + 1, j, R, by omega, by go_num, rfl, HN⟩
          case measure => simp [intOf]; omega
        · have : k = 0 := by omega
          subst this
          have h3 := hQ.out
          rw [Nat.pow_zero, Nat.mul_one, ← HXE.out] at h3
          obtain rfl : Q = X := h3
          have e9 : ((2 * Y : Nat) : Int) = 2 * (Y : Int) := by omega
          by_cases h12 : N < 12
          · obtain ⟨T', t4, t5, hc⟩ := HNX.out h12
            have HC := Lib.hid hc
            clear hc
            go_wp2_with fail
            refine (HP1.out _).mono ?_; rintro e w4 ⟨rfl, rfl⟩
            rw [e9]
            go_wp2_with fail
            refine (HP2.out _).mono ?_; rintro e w5 ⟨rfl, rfl⟩
            go_wp2_with fail
            refine (HC.out _).mono ?_; rintro e w6 ⟨rfl, rfl⟩
            go_wp2_with fail
            go_ret
            exact ⟨rfl, HB.out⟩
          · have hq : ((N : Int) == 12) = true := by rw [beq_iff_eq]; omega
            clear h12
            go_wp2_with fail
            refine (HP1.out _).mono ?_; rintro e w4 ⟨rfl, rfl⟩
            rw [e9]
            go_wp2_with fail
            refine (HP2.out _).mono ?_; rintro e w5 ⟨rfl, rfl⟩
            go_wp2_with fail
            go_ret
            exact ⟨rfl, HB.out⟩
    · have hst : stpI n p = -1 := by unfold stpI; rw [if_neg (fun hh => hn ⟨⟨hh.1, hh.2.1⟩, hh.2.2⟩)]
      rw [hst] at HI HS
      clear hn hst
      go_wp2_with fail
      refine (HI.out _).mono ?_; rintro e w2 ⟨rfl, rfl⟩
      go_wp2_with fail
      refine (HS.out _).mono ?_; rintro e w3 ⟨rfl, rfl⟩
      go_wp2_with fail
      refine (HS.out _).mono ?_; rintro e w4 ⟨rfl, rfl⟩
      go_wp2_with fail
      go_ret
      exact ⟨rfl, HB.out⟩
  · clear h
    go_enter Try.func3, Try.ntmps3
    go_wp2
    go_ret
    exact ⟨rfl, Below.refl _ _⟩
end Go.Proofs.Ytlbmjpkkomdhhaa
