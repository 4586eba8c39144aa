/-
  Contracts of TilesOf, of the program and of the model.
-/
import Derived.Test.YtgpbgbcdlebaiaaTiles
import Derived.Test.YtgpbgbcdlebaiaaSums
namespace Go.Proofs.Ytgpbgbcdlebaiaa
open Go.RowKit
set_option linter.unusedVariables false

theorem iTilesOf_no (n s : Int) (w : World) (hv : ¬ Tic.Valid n s) :
    Calls Try.prog 29 #[.int .i64 n, .int .i64 s] w (Gives [] w) := by
  go_enter Try.func29, Try.ntmps29
  go_wp2_with fail
  refine (implValid_no _ _ _ hv).mono ?_; rintro e w1 ⟨rfl, rfl⟩
  go_wp2_with fail
  go_ret
  exact ⟨_, rfl, Row.nil _ _, Below.refl _ _⟩
theorem iTilesOf_yes (n s : Int) (w : World) (hv : Tic.Valid n s) :
    Calls Try.prog 29 #[.int .i64 n, .int .i64 s] w (Gives (Tic.tlTo n.toNat s.toNat (2 ^ (n.toNat - 1))) w) := by
  have g1 := hv.1
  obtain ⟨N, rfl⟩ := Int.eq_ofNat_of_zero_le (show 0 ≤ n by omega)
  obtain ⟨S, rfl⟩ := Int.eq_ofNat_of_zero_le hv.2.2.1
  simp only [Int.toNat_natCast]
  have HV := Lib.hid hv
  clear hv
  go_enter Try.func29, Try.ntmps29
  go_wp2_with fail
  refine (implValid_yes _ _ _ HV.out).mono ?_; rintro e w1 ⟨rfl, rfl⟩
  go_wp2_with fail
  refine (tiles_any _ _ _ HV.out).mono ?_; rintro e w1 ⟨v, rfl, hr, hb⟩
  have HR := Lib.hid hr
  have HB := Lib.hid hb
  clear hr hb
  go_wp2_with fail
  go_ret
  exact ⟨_, rfl, HR.out, HB.out⟩
theorem sTilesOf_no (n s : Int) (w : World) (hv : ¬ Tic.Valid n s) :
    Calls Try.prog 31 #[.int .i64 n, .int .i64 s] w (Gives [] w) := by
  go_enter Try.func31, Try.ntmps31
  go_wp2_with fail
  refine (validSet_no _ _ _ hv).mono ?_; rintro e w1 ⟨rfl, rfl⟩
  go_wp2_with fail
  go_ret
  exact ⟨_, rfl, Row.nil _ _, Below.refl _ _⟩
theorem tile_no_wt {N A B : Nat} (h : 0 < N) (hw : Tic.wt N A * Tic.wt N B ≠ N) : Tic.tile N A B = false := by
  cases e : Tic.tile N A B with
  | false => rfl
  | true =>
    unfold Tic.tile at e
    rw [Bool.and_eq_true, beq_iff_eq] at e
    exact absurd (Tic.tile_wt h e.1 e.2) hw
set_option maxRecDepth 20000 in
set_option maxHeartbeats 1000000 in
theorem sTilesOf_yes (n s : Int) (w : World) (hv : Tic.Valid n s) :
    Calls Try.prog 31 #[.int .i64 n, .int .i64 s] w (Gives (Tic.tlTo n.toNat s.toNat (2 ^ (n.toNat - 1))) w) := by
  have hlt := hv.lt
  have g1 := hv.1
  have g2 := hv.2.1
  have hsN := hv.lt_pow
  obtain ⟨N, rfl⟩ := Int.eq_ofNat_of_zero_le (show 0 ≤ n by omega)
  obtain ⟨S, rfl⟩ := Int.eq_ofNat_of_zero_le hv.2.2.1
  have hp := Tic.pow_le_12 g2
  simp only [Int.toNat_natCast] at *
  have HV := Lib.hid hv
  have hpp : 2 ^ N = 2 * 2 ^ (N - 1) := by rw [show N = (N - 1) + 1 by omega, Nat.pow_succ]; simp; omega
  have HPW := Lib.hid (fun w' => power_any (N : Int) w' (by omega) (by omega))
  simp only [Int.toNat_natCast] at HPW
  have HWS := Lib.hid (fun w' => weight_any (S : Int) w' (by omega) (by omega))
  simp only [Int.toNat_natCast] at HWS
  have HW12 := Lib.hid (Tic.wt_low (n := N) (m := 12) hsN (by omega))
  have hwS := Tic.wt_le 12 S
  clear hv hsN
  generalize hP : 2 ^ (N - 1) = P at *
  have HP := Lib.hid hP
  clear hP
  rw [hpp] at HPW
  have HPP := Lib.hid hpp
  have hP4 : 2 * P ≤ 4096 := by omega
  clear hpp hp
  go_enter Try.func31, Try.ntmps31
  go_wp2_with fail
  refine (validSet_yes _ _ _ HV.out).mono ?_; rintro e w1 ⟨rfl, rfl⟩
  go_wp2
  go_loopw [5, 6, 7, 8] (fun t5 t6 t7 t8 wr => ∃ k : Nat, k ≤ P ∧ t6 = .int .i64 (2 * (k : Int) + 1) ∧ Hid (Row wr w.heap.size t5 (Tic.tlTo N S k)) ∧ Below w.heap.size w wr) (fun _ t6 _ _ _ => 2 * P + 1 - (intOf t6).toNat)
  case atStart => exact ⟨0, Nat.zero_le _, rfl, ⟨World.ownsRow_made w #[] 0 (Nat.le_refl _) (by decide) rfl, Nat.zero_le _⟩, (Below.refl _ _).alloc (Nat.le_refl _) _⟩
  case round =>
    obtain ⟨k, hk, rfl, HR, hbel⟩ := hrel
    have hs := hbel.size
    by_cases hlt2 : k < P
    · have HVB : Hid (Tic.Valid (N : Int) ((2 * k + 1 : Nat) : Int)) := Lib.hid ⟨g1, g2, by omega, by rw [Int.toNat_natCast, HPP.out]; omega⟩
      obtain ⟨B, hB⟩ : ∃ B, B = 2 * k + 1 := ⟨_, rfl⟩
      have hB9 := hB
      have hBi : 2 * (k : Int) + 1 = (B : Int) := by omega
      rw [← hB] at HVB
      rw [hBi]
      have HBI := Lib.hid hBi
      clear hBi
      have hBlt : B < 2 ^ N := by rw [HPP.out]; omega
      have HWB := Lib.hid (fun w' => weight_any (B : Int) w' (by omega) (by omega))
      simp only [Int.toNat_natCast] at HWB
      have HWB2 := Lib.hid (Tic.wt_low (n := N) (m := 12) hBlt (by omega))
      have hwB := Tic.wt_le 12 B
      obtain ⟨a, ha⟩ : ∃ a, a = Tic.wt 12 S := ⟨_, rfl⟩
      obtain ⟨c, hc⟩ : ∃ c, c = Tic.wt 12 B := ⟨_, rfl⟩
      rw [← ha] at HWS hwS HW12
      rw [← hc] at HWB hwB HWB2
      obtain ⟨q, hq⟩ : ∃ q, q = a * c := ⟨_, rfl⟩
      have hq12 : q ≤ 144 := by rw [hq]; exact Nat.mul_le_mul hwS hwB
      have hmul : ((a : Int) * (c : Int)) = (q : Int) := by rw [hq, Int.natCast_mul]
      have HQ := Lib.hid hq
      have HKB := Lib.hid hB
      have HTY := Lib.hid (fun (h : Tic.tile N S (2 * k + 1) = true) => Tic.tlTo_yes h)
      have HTN := Lib.hid (fun (h : Tic.tile N S (2 * k + 1) = false) => Tic.tlTo_no h)
      have hfl := Tic.tlTo_len N S k
      rw [← hB] at HTY HTN
      have HW1 := Lib.hid hmul
      have hBP : B < 2 * P := by omega
      clear ha hc hq hBlt hmul hB hB9
      by_cases hqn : q = N
      · have hq1 : ((q : Int) == (N : Int)) = true := by rw [hqn]; simp
        have HSU := Lib.hid (fun w' => ssums_any (N : Int) (S : Int) (B : Int) w' HV.out HVB.out)
        simp only [Int.toNat_natCast] at HSU
        have hul := Tic.un_lt (n := N) (by omega) S B N
        have HTD : Hid (Tic.tile N S B = (Tic.okk N S B N && Tic.un N S B N == 2 ^ N - 1)) := Lib.hid (by unfold Tic.tile; rfl)
        rw [HPP.out] at HTD hul
        generalize Tic.un N S B N = U at HSU HTD hul
        generalize Tic.okk N S B N = ok at HSU HTD
        clear hqn
        go_wp2_with fail
        refine (HPW.out _).mono ?_; rintro e w1 ⟨rfl, rfl⟩
        go_wp2_with fail
        refine (HWS.out _).mono ?_; rintro e w1 ⟨rfl, rfl⟩
        go_wp2_with fail
        refine (HWB.out _).mono ?_; rintro e w1 ⟨rfl, rfl⟩
        have hw1 := HW1.out
        go_wp2_with fail
        refine (HSU.out _).mono ?_; rintro e w1 ⟨rfl, rfl⟩
        clear hw1
        cases ok with
        | false =>
          have HT : Hid (Tic.tile N S B = false) := Lib.hid (by rw [HTD.out]; rfl)
          have HN := Lib.hid (HTN.out HT.out)
          go_wp2
          go_roundw
          case rel => exact ⟨k + 1, by omega, congrArg (Value.int .i64) (by have := HBI.out; omega), by rw [HN.out]; exact HR, hbel⟩
          case measure => have := HBI.out; simp [intOf]; omega
        | true =>
          go_wp2_with fail
          refine (HPW.out _).mono ?_; rintro e w1 ⟨rfl, rfl⟩
          by_cases hu : U = 2 * P - 1
          · have HT : Hid (Tic.tile N S B = true) := Lib.hid (by rw [HTD.out, hu]; simp)
            have HN := Lib.hid (HTY.out HT.out)
            have hu2 : (U : Int) = ((2 * P : Nat) : Int) - 1 := by omega
            have hkk : k < 2048 := by omega
            go_wp2_with (at_builtin; refine wpList_append_int rfl _ _ rfl w.heap.size _ (Tic.tlTo N S k) rfl (HR.out.alloc _) wr.heap.size 1 B rfl ?c1 ?c2 ?c3 ?_)
            case c1 => go_simp
            case c2 => omega
            case c3 => simp; omega
            intro v' w1 hrow hb1
            have HR1 := Lib.hid hrow
            clear hrow
            go_wp2
            go_roundw
            case rel => exact ⟨k + 1, by omega, congrArg (Value.int .i64) (by have := HBI.out; omega), by rw [HN.out]; exact HR1, (hbel.alloc hs _).trans hb1⟩
            case measure => have := HBI.out; simp [intOf]; omega
          · have HT : Hid (Tic.tile N S B = false) := Lib.hid (by rw [HTD.out, beq_eq_false_iff_ne.2 hu]; rfl)
            have HN := Lib.hid (HTN.out HT.out)
            have hu2 : ((U : Int) == ((2 * P : Nat) : Int) - 1) = false := by rw [beq_eq_false_iff_ne]; omega
            go_wp2
            go_roundw
            case rel => exact ⟨k + 1, by omega, congrArg (Value.int .i64) (by have := HBI.out; omega), by rw [HN.out]; exact HR, hbel⟩
            case measure => have := HBI.out; simp [intOf]; omega
      · have hq1 : ((q : Int) == (N : Int)) = false := by rw [beq_eq_false_iff_ne]; omega
        have HT : Hid (Tic.tile N S B = false) := Lib.hid (tile_no_wt (by omega) (by rw [← HW12.out, ← HWB2.out, ← HQ.out]; exact hqn))
        have HN := Lib.hid (HTN.out HT.out)
        clear hqn
        go_wp2_with fail
        refine (HPW.out _).mono ?_; rintro e w1 ⟨rfl, rfl⟩
        go_wp2_with fail
        refine (HWS.out _).mono ?_; rintro e w1 ⟨rfl, rfl⟩
        go_wp2_with fail
        refine (HWB.out _).mono ?_; rintro e w1 ⟨rfl, rfl⟩
        have hw1 := HW1.out
        go_wp2
        go_roundw
        case rel => exact ⟨k + 1, by omega, congrArg (Value.int .i64) (by have := HBI.out; omega), by rw [HN.out]; exact HR, hbel⟩
        case measure => have := HBI.out; simp [intOf]; omega
    · obtain rfl : k = P := by omega
      go_wp2_with fail
      refine (HPW.out _).mono ?_; rintro e w1 ⟨rfl, rfl⟩
      go_wp2
      go_ret
      exact ⟨_, rfl, HR.out, hbel⟩
end Go.Proofs.Ytgpbgbcdlebaiaa
