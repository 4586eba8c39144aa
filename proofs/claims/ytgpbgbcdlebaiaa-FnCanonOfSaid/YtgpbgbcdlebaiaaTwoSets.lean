/-
  The draw of a circle and two sets of its tones.
-/
import Derived.Test.YtgpbgbcdlebaiaaDraws
import Derived.Test.YtgpbgbcdlebaiaaKindNum
import Derived.Test.YtgpbgbcdlebaiaaShift
namespace Go.Proofs.Ytgpbgbcdlebaiaa
open Go.RowKit
set_option linter.unusedVariables false

/-- a circle and two sets are drawn -/
def DrTwo (B : Nat) (w : World) (e : Ending) (w' : World) : Prop :=
  ∃ n a b : Int, e = .returned (.tuple #[.int .i64 n, .int .i64 a, .int .i64 b]) ∧ -1 ≤ n ∧ n ≤ 13 ∧ -1 ≤ a ∧ a ≤ 1000000 ∧ -1 ≤ b ∧ b ≤ 1000000 ∧ w.grownBy w' (some B)
/-- the arguments of a function of a circle and two sets -/
def Pair2 (w : World) (e : Ending) (w' : World) : Prop := ∃ n a b : Int, e = .returned (.tuple #[.int .i64 n, .int .i64 a, .int .i64 b]) ∧ -1 ≤ n ∧ n ≤ 13 ∧ -1 ≤ a ∧ a ≤ 1000000 ∧ -1 ≤ b ∧ b ≤ 1000000 ∧ Below w.heap.size w w'
theorem turn_set (n s t : Int) (w : World) (hv : Tic.Valid n s) (ht : Tic.Turn t) :
    Calls Try.prog 52 #[.int .i64 n, .int .i64 s, .int .i64 t] w fun e w' => ∃ P : Int, e = .returned (.int .i64 P) ∧ Tic.Valid n P ∧ w = w' :=
  (sturn_any n s t w hv ht).mono fun e w' ⟨h2, h3⟩ => ⟨_, h2, Tic.valid_tur hv t, h3⟩
theorem shift_set (n s t : Int) (w : World) (hv : Tic.Valid n s) (ht : Tic.Turn t) :
    Calls Try.prog 51 #[.int .i64 n, .int .i64 s, .int .i64 t] w fun e w' => ∃ P : Int, e = .returned (.int .i64 P) ∧ 0 ≤ P ∧ P < 4096 ∧ w = w' :=
  (sshift_any n s t w hv ht).mono fun e w' ⟨h2, h3⟩ => ⟨_, h2, Int.natCast_nonneg _, by have := Tic.shf_lt12 hv t; omega, h3⟩
set_option maxRecDepth 20000 in
set_option maxHeartbeats 2000000 in
theorem twoSets_any (B p : Nat) (w : World) (h : Rd w B p) (hp : p ≤ 100) :
    Calls Try.prog 59 #[.pointer (some ⟨B, 0, none⟩)] w (DrTwo B w) := by
  go_enter Try.func59, Try.ntmps59
  go_wp2_with fail
  refine (aSet_any _ _ _ h (by omega)).mono ?_; rintro e w1 ⟨n, s, p1, rfl, n0, n1, s0, s1, hp1, hr, hg⟩
  have HR := Lib.hid hr
  have HG := Lib.hid hg
  clear hr hg h
  by_cases hv : Tic.Valid n s
  · have g1 := hv.1
    have g2 := hv.2.1
    have hlt := hv.lt
    have HV := Lib.hid hv
    obtain ⟨N, rfl⟩ := Int.eq_ofNat_of_zero_le (show 0 ≤ n by omega)
    obtain ⟨S, rfl⟩ := Int.eq_ofNat_of_zero_le hv.2.2.1
    clear hv
    go_wp2_with fail
    refine (validSet_yes _ _ _ HV.out).mono ?_; rintro e w2 ⟨rfl, rfl⟩
    go_wp2_with fail
    refine (pick_pos _ _ _ _ HR.out (by omega) (by omega) (by omega)).mono ?_; rintro e w2 ⟨r0, rfl, h0, h1, H1, G1⟩
    have HG1 := Lib.hid (grown_trans HG.out G1.out)
    clear HR G1 HG
    by_cases hr0 : r0 = 0
    · subst hr0
      go_wp2_with fail
      refine (pick_pos _ _ _ _ H1.out (by omega) (by omega) (by omega)).mono ?_; rintro e w3 ⟨r1, rfl, q0, q1, H2, G2⟩
      replace HG1 := Lib.hid (grown_trans HG1.out G2.out)
      clear H1 G2
      go_wp2_with fail
      refine (pick_pos _ _ _ _ H2.out (by omega) (by omega) (by omega)).mono ?_; rintro e w4 ⟨r2, rfl, q2, q3, H3, G3⟩
      replace HG1 := Lib.hid (grown_trans HG1.out G3.out)
      clear H2 G3
      rcases (show r1 = 0 ∨ r1 = 1 by omega) with rfl | rfl
      all_goals
        go_wp2_with fail
        refine (turn_set _ _ _ _ HV.out ⟨by omega, by omega⟩).mono ?_; rintro e w5 ⟨T, rfl, hT, rfl⟩
        go_wp2_with fail
        refine (pick_pos _ _ _ _ H3.out (by omega) (by omega) (by omega)).mono ?_; rintro e w5 ⟨r3, rfl, q4, q5, H4, G4⟩
        replace HG1 := Lib.hid (grown_trans HG1.out G4.out)
        clear H3 G4
        go_wp2_with fail
        refine (shift_set _ _ _ _ hT ⟨by omega, by omega⟩).mono ?_; rintro e w6 ⟨X, rfl, hX0, hX1, rfl⟩
        go_wp2_with fail
        go_ret3
        exact ⟨_, _, _, rfl, by omega, by omega, by omega, by omega, by omega, by omega, HG1.out⟩
    · have hr1 : (r0 == 0) = false := by rw [beq_eq_false_iff_ne]; exact hr0
      go_wp2_with fail
      refine (weight_any _ _ (by omega) (by omega)).mono ?_; rintro e w3 ⟨rfl, rfl⟩
      rw [Int.toNat_natCast]
      have hk := Tic.wt_le 12 S
      generalize Tic.wt 12 S = k at hk ⊢
      have HG0 := HG1
      obtain ⟨p2, hp2⟩ : ∃ p2, p2 = p1 + 1 := ⟨_, rfl⟩
      rw [← hp2] at H1
      have hp3 : p2 ≤ 200 := by omega
      clear hp2 HG1 hr0 hr1 h0 h1
      go_wp2
      go_loopw [7, 9, 10] (fun t7 t9 t10 wr => ∃ x b q : Nat, x ≤ N ∧ b < 2 ^ x ∧ q ≤ p2 + x ∧ t9 = .int .i64 x ∧ t7 = .int .i64 b ∧ Hid (Rd wr B q) ∧ Hid (w.grownBy wr (some B))) (fun _ t9 _ _ => N - (intOf t9).toNat)
      case atStart => exact ⟨0, 0, p2, Nat.zero_le _, by decide, Nat.le_refl _, rfl, rfl, H1, HG0⟩
      case round =>
        clear H1 HG0
        obtain ⟨x, b, q, hx, hb, hq, rfl, rfl, H1, HG0⟩ := hrel
        have hp12 : 2 ^ x ≤ 2 ^ 12 := Nat.pow_le_pow_right (by omega) (by omega)
        by_cases hlt2 : x < N
        · have hp2x : 2 ^ (x + 1) = 2 * 2 ^ x := by rw [Nat.pow_succ]; omega
          have hwb := Tic.wt_le 12 b
          go_wp2_with fail
          refine (weight_any _ _ (by omega) (by omega)).mono ?_; rintro e w4 ⟨rfl, rfl⟩
          rw [Int.toNat_natCast]
          generalize Tic.wt 12 b = c at hwb ⊢
          by_cases hkc : c < k
          · go_wp2_with fail
            refine (pick_pos _ _ _ _ H1.out (by omega) (by omega) (by omega)).mono ?_; rintro e w5 ⟨r, rfl, q4, q5, H2, G2⟩
            have HG2 := Lib.hid (grown_trans HG0.out G2.out)
            clear H1 HG0 G2
            by_cases hrk : r < (k : Int)
            · have HPW := Lib.hid (fun w' => power_any (x : Int) w' (by omega) (by omega))
              simp only [Int.toNat_natCast] at HPW
              generalize 2 ^ x = P at *
              go_wp2_with fail
              refine (HPW.out _).mono ?_; rintro e w6 ⟨rfl, rfl⟩
              go_wp2
              go_roundw
              case rel => exact ⟨x + 1, b + P, q + 1, by omega, by omega, by omega, by go_num, by go_num, H2, HG2⟩
              case measure => simp [intOf]; omega
            · by_cases hnl : (N : Int) - (x : Int) ≤ (k : Int) - (c : Int)
              · have HPW := Lib.hid (fun w' => power_any (x : Int) w' (by omega) (by omega))
                simp only [Int.toNat_natCast] at HPW
                generalize 2 ^ x = P at *
                go_wp2_with fail
                refine (HPW.out _).mono ?_; rintro e w6 ⟨rfl, rfl⟩
                go_wp2
                go_roundw
                case rel => exact ⟨x + 1, b + P, q + 1, by omega, by omega, by omega, by go_num, by go_num, H2, HG2⟩
                case measure => simp [intOf]; omega
              · go_wp2
                go_roundw
                case rel => exact ⟨x + 1, b, q + 1, by omega, by omega, by omega, by go_num, rfl, H2, HG2⟩
                case measure => simp [intOf]; omega
          · go_wp2
            go_roundw
            case rel => exact ⟨x + 1, b, q, by omega, by omega, by omega, by go_num, rfl, H1, HG0⟩
            case measure => simp [intOf]; omega
        · obtain rfl : x = N := by omega
          go_wp2_with fail
          refine (pick_pos _ _ _ _ H1.out (by omega) (by omega) (by omega)).mono ?_; rintro e w5 ⟨r, rfl, q4, q5, H2, G2⟩
          have HG2 := Lib.hid (grown_trans HG0.out G2.out)
          clear H1 HG0 G2
          by_cases hr : r = 0
          · subst hr
            go_wp2_with fail
            refine (setOf_any _ _ _ _ H2.out (by omega) (by omega) (by omega)).mono ?_; rintro e w6 ⟨y, p9, rfl, y0, y1, _, _, hg9⟩
            have HG3 := Lib.hid (grown_trans HG2.out hg9)
            clear hg9
            go_wp2_with fail
            go_ret3
            exact ⟨_, _, _, rfl, by omega, by omega, by omega, by omega, by omega, by omega, HG3.out⟩
          · have hr1 : (r == 0) = false := by rw [beq_eq_false_iff_ne]; exact hr
            go_wp2_with fail
            go_ret3
            exact ⟨_, _, _, rfl, by omega, by omega, by omega, by omega, by omega, by omega, HG2.out⟩
  · go_wp2_with fail
    refine (validSet_no _ _ _ hv).mono ?_; rintro e w2 ⟨rfl, rfl⟩
    go_wp2_with fail
    refine (setOf_any _ _ _ _ HR.out (by omega) (by omega) (by omega)).mono ?_; rintro e w2 ⟨y, p', rfl, y0, y1, hp', _, hg2⟩
    have HG2 := Lib.hid (grown_trans HG.out hg2)
    clear hg2
    go_wp2_with fail
    go_ret3
    exact ⟨_, _, _, rfl, by omega, by omega, by omega, by omega, by omega, by omega, HG2.out⟩
theorem drawSumsOf (x : Option Addr) (len cap : Nat) (w : World) (h : Code w x len cap) : Calls Try.prog 25 #[.slice x len cap] w (Pair2 w) := by
  obtain ⟨zs, h1, h2, h3⟩ := h
  go_enter Try.func25, Try.ntmps25
  go_wp2_with fail
  refine (newReader_any _ _ _ _ _ h1 h2 h3).mono ?_; rintro e w1 ⟨rfl, hrd, hb, _⟩
  have HB := Lib.hid hb
  clear hb
  go_wp2_with fail
  refine (twoSets_any _ _ _ hrd (by omega)).mono ?_; rintro e w2 ⟨n, a, b, rfl, n0, n1, a0, a1, b0, b1, hg⟩
  have HG := Lib.hid (below_grown HB.out hg)
  clear hg
  go_wp2_with fail
  go_ret3
  exact ⟨n, a, b, rfl, n0, n1, a0, a1, b0, b1, HG.out⟩
theorem drawCanonOf (x : Option Addr) (len cap : Nat) (w : World) (h : Code w x len cap) : Calls Try.prog 42 #[.slice x len cap] w (Pair2 w) := by
  obtain ⟨zs, h1, h2, h3⟩ := h
  go_enter Try.func42, Try.ntmps42
  go_wp2_with fail
  refine (newReader_any _ _ _ _ _ h1 h2 h3).mono ?_; rintro e w1 ⟨rfl, hrd, hb, _⟩
  have HB := Lib.hid hb
  clear hb
  go_wp2_with fail
  refine (twoSets_any _ _ _ hrd (by omega)).mono ?_; rintro e w2 ⟨n, a, b, rfl, n0, n1, a0, a1, b0, b1, hg⟩
  have HG := Lib.hid (below_grown HB.out hg)
  clear hg
  go_wp2_with fail
  go_ret3
  exact ⟨n, a, b, rfl, n0, n1, a0, a1, b0, b1, HG.out⟩
end Go.Proofs.Ytgpbgbcdlebaiaa
