/-
  The walk of the law of sums.
-/
import Derived.Test.YtgpbgbcdlebaiaaLawLow
import Derived.Test.YtgpbgbcdlebaiaaTwoSets
import Derived.Test.YtgpbgbcdlebaiaaSums
namespace Go.Proofs.Ytgpbgbcdlebaiaa
open Go.RowKit
set_option linter.unusedVariables false

set_option maxRecDepth 20000 in
set_option maxHeartbeats 2000000 in
theorem FnSumsOf_walk (x : Option Addr) (len cap : Nat) (w : World) (h : Code w x len cap) :
    Calls Try.prog 6 #[.slice x len cap] w fun e w' => e = .returned (.bool true) ∧ Below w.heap.size w w' := by
  by_cases hl : 1048576 < len
  · go_enter Try.func6, Try.ntmps6
    go_wp2_with fail
    go_ret
    exact ⟨rfl, Below.refl _ _⟩
  · go_enter Try.func6, Try.ntmps6
    go_wp2_with fail
    refine (drawSumsOf _ _ _ _ h).mono ?_; rintro e w1 ⟨n, a, b, rfl, n0, n1, a0, a1, b0, b1, hb⟩
    have HB := Lib.hid hb
    clear hb h hl
    by_cases hv : TwoOk n a b
    · obtain ⟨v1, v2⟩ := hv
      have g1 := v1.1
      have g2 := v1.2.1
      have l1 := v1.lt
      have l2 := v2.lt
      have p1 := v1.lt_pow
      have p2 := v2.lt_pow
      obtain ⟨N, rfl⟩ := Int.eq_ofNat_of_zero_le (show 0 ≤ n by omega)
      obtain ⟨A, rfl⟩ := Int.eq_ofNat_of_zero_le v1.2.2.1
      obtain ⟨B, rfl⟩ := Int.eq_ofNat_of_zero_le v2.2.2.1
      have HI := Lib.hid (fun w => iSumsOf_yes _ _ _ w ⟨v1, v2⟩)
      have HS := Lib.hid (fun w => sSumsOf_yes _ _ _ w ⟨v1, v2⟩)
      have HI2 := Lib.hid (fun w => iSumsOf_yes _ _ _ w ⟨v2, v1⟩)
      simp only [Int.toNat_natCast] at HI HS HI2 p1 p2
      rw [← Tic.un_comm (by omega) A B, ← Tic.okk_comm (by omega) A B] at HI2
      have hul := Tic.un_lt (n := N) (by omega) A B N
      have hpN := Tic.pow_le_12 g2
      rw [Int.toNat_natCast] at hpN
      have hok := Tic.okk_wt (n := N) (by omega) A B
      rw [← Tic.wt_low (m := 12) hul (by omega), ← Tic.wt_low (m := 12) p1 (by omega), ← Tic.wt_low (m := 12) p2 (by omega)] at hok
      generalize Tic.okk N A B N = ok at HI HS HI2 hok
      generalize Tic.un N A B N = U at HI HS HI2 hok hul
      have HWU := Lib.hid (fun w => lweight_any (U : Int) w (by omega) (by omega))
      have HWA := Lib.hid (fun w => lweight_any (A : Int) w (by omega) l1)
      have HWB := Lib.hid (fun w => lweight_any (B : Int) w (by omega) l2)
      simp only [Int.toNat_natCast] at HWU HWA HWB
      have c1 := Tic.wt_le 12 A
      have c2 := Tic.wt_le 12 B
      have c3 := Tic.wt_le 12 U
      generalize Tic.wt 12 A = ca at HWA hok c1
      generalize Tic.wt 12 B = cb at HWB hok c2
      generalize Tic.wt 12 U = cu at HWU hok c3
      obtain ⟨q, hq⟩ : ∃ q, q = ca * cb := ⟨_, rfl⟩
      have hq12 : q ≤ 144 := by rw [hq]; exact Nat.mul_le_mul c1 c2
      rw [← hq] at hok
      have HM : Hid ((ca : Int) * (cb : Int) = (q : Int)) := Lib.hid (by rw [hq, Int.natCast_mul])
      have hu0 : (0 : Int) ≤ (U : Int) := by omega
      clear hq v1 v2 p1 p2 hpN
      cases ok with
      | false =>
        have hne : ((cu : Int) == (q : Int)) = false := by
          rw [beq_eq_false_iff_ne]
          intro e
          have := hok.2 (by omega)
          cases this
        clear hok
        go_wp2_with fail
        refine (HI.out _).mono ?_; rintro e w2 ⟨rfl, hb⟩
        replace HB := Lib.hid (HB.out.trans (hb.mono HB.out.size))
        clear hb
        go_wp2_with fail
        refine (HS.out _).mono ?_; rintro e w3 ⟨rfl, rfl⟩
        go_wp2_with fail
        refine (HI2.out _).mono ?_; rintro e w2 ⟨rfl, hb⟩
        replace HB := Lib.hid (HB.out.trans (hb.mono HB.out.size))
        clear hb
        go_wp2_with fail
        refine (HWU.out _).mono ?_; rintro e w3 ⟨rfl, rfl⟩
        go_wp2_with fail
        refine (HWA.out _).mono ?_; rintro e w3 ⟨rfl, rfl⟩
        go_wp2_with fail
        refine (HWB.out _).mono ?_; rintro e w3 ⟨rfl, rfl⟩
        have hmul := HM.out
        go_wp2_with fail
        go_ret
        exact ⟨rfl, HB.out⟩
      | true =>
        have heq : cu = q := hok.1 rfl
        subst heq
        clear hok
        go_wp2_with fail
        refine (HI.out _).mono ?_; rintro e w2 ⟨rfl, hb⟩
        replace HB := Lib.hid (HB.out.trans (hb.mono HB.out.size))
        clear hb
        go_wp2_with fail
        refine (HS.out _).mono ?_; rintro e w3 ⟨rfl, rfl⟩
        go_wp2_with fail
        refine (HI2.out _).mono ?_; rintro e w2 ⟨rfl, hb⟩
        replace HB := Lib.hid (HB.out.trans (hb.mono HB.out.size))
        clear hb
        go_wp2_with fail
        refine (HWU.out _).mono ?_; rintro e w3 ⟨rfl, rfl⟩
        go_wp2_with fail
        refine (HWA.out _).mono ?_; rintro e w3 ⟨rfl, rfl⟩
        go_wp2_with fail
        refine (HWB.out _).mono ?_; rintro e w3 ⟨rfl, rfl⟩
        have hmul := HM.out
        go_wp2_with fail
        go_ret
        exact ⟨rfl, HB.out⟩
    · go_wp2_with fail
      refine (iSumsOf_no _ _ _ _ hv).mono ?_; rintro e w2 ⟨rfl, rfl⟩
      go_wp2_with fail
      refine (sSumsOf_no _ _ _ _ hv).mono ?_; rintro e w2 ⟨rfl, rfl⟩
      go_wp2_with fail
      go_ret
      exact ⟨rfl, HB.out⟩
end Go.Proofs.Ytgpbgbcdlebaiaa
