/-
  The walks of the laws of moves, periods, loose sets and odd rhythms.
-/
import Derived.Test.YtgpbgbcdlebaiaaLawLow
import Derived.Test.YtgpbgbcdlebaiaaMoves
import Derived.Test.YtgpbgbcdlebaiaaPeriod
import Derived.Test.YtgpbgbcdlebaiaaGaps
import Derived.Test.YtgpbgbcdlebaiaaArr
import Derived.Test.YtgpbgbcdlebaiaaOddNum
import Derived.Test.YtgpbgbcdlebaiaaTileTab
namespace Go.Proofs.Ytgpbgbcdlebaiaa
open Go.RowKit
set_option linter.unusedVariables false

set_option maxRecDepth 20000 in
set_option maxHeartbeats 1000000 in
theorem FnMovesOf_walk (x : Option Addr) (len cap : Nat) (w : World) (h : Code w x len cap) :
    Calls Try.prog 3 #[.slice x len cap] w fun e w' => e = .returned (.bool true) ∧ Below w.heap.size w w' := by
  by_cases hl : 1048576 < len
  · go_enter Try.func3, Try.ntmps3
    go_wp2_with fail
    go_ret
    exact ⟨rfl, Below.refl _ _⟩
  · go_enter Try.func3, Try.ntmps3
    go_wp2_with fail
    refine (drawMovesOf _ _ _ _ h).mono ?_; rintro e w1 ⟨n, s, rfl, n0, n1, s0, s1, hb⟩
    have HB := Lib.hid hb
    clear hb h hl
    by_cases hv : Tic.Valid n s
    · have g1 := hv.1
      have g2 := hv.2.1
      have hs := hv.lt_pow
      obtain ⟨N, rfl⟩ := Int.eq_ofNat_of_zero_le (show 0 ≤ n by omega)
      obtain ⟨S, rfl⟩ := Int.eq_ofNat_of_zero_le hv.2.2.1
      simp only [Int.toNat_natCast] at hs
      obtain ⟨m1, m2, m3, m4, _, _⟩ := Tic.mov_spec (n := N) (by omega) (by omega) hs
      have HI := Lib.hid (fun w => iMovesOf_yes _ _ w hv)
      have HS := Lib.hid (fun w => sMovesOf_yes _ _ w hv)
      have HP := Lib.hid (fun w => iPeriodOf_yes _ _ w hv)
      simp only [Int.toNat_natCast] at HI HS HP
      have hle := Tic.shs_le N S N
      generalize Tic.shs N S N = a at *
      generalize Tic.trs N S N = b at *
      generalize Tic.per N S = p at *
      have hmul : (a : Int) * (p : Int) = (N : Int) := by rw [← m4, Int.natCast_mul]
      have HM := Lib.hid hmul
      have hmod : ((N : Int) % (a : Int)) = 0 := by rw [← Int.natCast_emod, m2]; rfl
      have hmod2 : ((N : Int) % (a : Int) == 0) = true := by rw [hmod]; rfl
      clear m2 m4 hs hmul hv
      go_wp2_with fail
      refine (HI.out _).mono ?_; rintro e w2 ⟨rfl, hb⟩
      replace HB := Lib.hid (HB.out.trans (hb.mono HB.out.size))
      clear hb
      go_wp2_with fail
      refine (HS.out _).mono ?_; rintro e w3 ⟨rfl, rfl⟩
      rcases m3 with rfl | rfl
      all_goals
        go_wp2_with fail
        refine (HP.out _).mono ?_; rintro e w4 ⟨rfl, hb⟩
        replace HB := Lib.hid (HB.out.trans (hb.mono HB.out.size))
        clear hb
        have hmul := HM.out
        go_wp2_with fail
        go_ret
        exact ⟨rfl, HB.out⟩
    · go_wp2_with fail
      refine (iMovesOf_no _ _ _ hv).mono ?_; rintro e w2 ⟨rfl, rfl⟩
      go_wp2_with fail
      refine (sMovesOf_no _ _ _ hv).mono ?_; rintro e w2 ⟨rfl, rfl⟩
      go_wp2_with fail
      go_ret
      exact ⟨rfl, HB.out⟩
set_option maxRecDepth 20000 in
set_option maxHeartbeats 1000000 in
theorem FnPeriodOf_walk (x : Option Addr) (len cap : Nat) (w : World) (h : Code w x len cap) :
    Calls Try.prog 4 #[.slice x len cap] w fun e w' => e = .returned (.bool true) ∧ Below w.heap.size w w' := by
  by_cases hl : 1048576 < len
  · go_enter Try.func4, Try.ntmps4
    go_wp2_with fail
    go_ret
    exact ⟨rfl, Below.refl _ _⟩
  · go_enter Try.func4, Try.ntmps4
    go_wp2_with fail
    refine (drawPeriodOf _ _ _ _ h).mono ?_; rintro e w1 ⟨n, s, rfl, n0, n1, s0, s1, hb⟩
    have HB := Lib.hid hb
    clear hb h hl
    by_cases hv : Tic.Valid n s
    · have g1 := hv.1
      have g2 := hv.2.1
      have hlt := hv.lt
      have hs := hv.lt_pow
      obtain ⟨N, rfl⟩ := Int.eq_ofNat_of_zero_le (show 0 ≤ n by omega)
      obtain ⟨S, rfl⟩ := Int.eq_ofNat_of_zero_le hv.2.2.1
      simp only [Int.toNat_natCast] at hs
      obtain ⟨_, _, _, _, m5, m6⟩ := Tic.mov_spec (n := N) (by omega) (by omega) hs
      obtain ⟨p1, p2, p3, _⟩ := Tic.per_spec (n := N) (by omega) hs
      have HI := Lib.hid (fun w => iPeriodOf_yes _ _ w hv)
      have HS := Lib.hid (fun w => sPeriodOf_yes _ _ w hv)
      have HL : Hid (∀ w : World, Calls Try.prog 19 #[.int .i64 N, .int .i64 S] w fun e w' => e = .returned (.bool (decide ((Tic.per N S : Int) < (N : Int)))) ∧ Below w.heap.size w w') := Lib.hid (fun w => iIsLoose_yes (N : Int) (S : Int) w hv)
      have HSH := Lib.hid (fun w => iShiftSet_yes (N : Int) (S : Int) (Tic.per N S : Int) w hv ⟨by omega, by omega⟩)
      have HW := Lib.hid (fun w => lweight_any (S : Int) w (by omega) hlt)
      simp only [Int.toNat_natCast] at HI HS HSH HW
      rw [p3] at HSH
      have hw12 := Tic.wt_le 12 S
      generalize Tic.per N S = p at m5 m6 p1 p2 HI HS HL HSH
      generalize Tic.wt 12 S = c at m6 hw12 HW
      have hmod : ((N : Int) % (p : Int)) = 0 := by rw [← Int.natCast_emod, m5]; rfl
      have hmod2 : ((N : Int) % (p : Int) == 0) = true := by rw [hmod]; rfl
      obtain ⟨q, hq⟩ : ∃ q, q = c * p := ⟨_, rfl⟩
      have hq12 : q ≤ 144 := by rw [hq]; show c * p ≤ 12 * 12; exact Nat.mul_le_mul hw12 (show p ≤ 12 by omega)
      have hmul : (c : Int) * (p : Int) = (q : Int) := by rw [hq, Int.natCast_mul]
      rw [← hq] at m6
      have hmod3 : ((q : Int) % (N : Int)) = 0 := by rw [← Int.natCast_emod, m6]; rfl
      have hmod4 : ((q : Int) % (N : Int) == 0) = true := by rw [hmod3]; rfl
      have HM := Lib.hid hmul
      clear m5 m6 hs hmul hv hq p3
      go_wp2_with fail
      refine (HI.out _).mono ?_; rintro e w2 ⟨rfl, hb⟩
      replace HB := Lib.hid (HB.out.trans (hb.mono HB.out.size))
      clear hb
      go_wp2_with fail
      refine (HS.out _).mono ?_; rintro e w3 ⟨rfl, rfl⟩
      go_wp2_with fail
      refine (HSH.out _).mono ?_; rintro e w3 ⟨rfl, hb⟩
      replace HB := Lib.hid (HB.out.trans (hb.mono HB.out.size))
      clear hb
      go_wp2_with fail
      refine (HW.out _).mono ?_; rintro e w4 ⟨rfl, rfl⟩
      have hmul := HM.out
      go_wp2_with fail
      refine (HL.out _).mono ?_; rintro e w4 ⟨rfl, hb⟩
      replace HB := Lib.hid (HB.out.trans (hb.mono HB.out.size))
      clear hb
      clear hmul
      by_cases hpn : (p : Int) < (N : Int)
      · go_wp2_with fail
        go_ret
        exact ⟨ret_bool (by simp), HB.out⟩
      · go_wp2_with fail
        go_ret
        exact ⟨ret_bool (by simp), HB.out⟩
    · go_wp2_with fail
      refine (iPeriodOf_no _ _ _ hv).mono ?_; rintro e w2 ⟨rfl, rfl⟩
      go_wp2_with fail
      refine (sPeriodOf_no _ _ _ hv).mono ?_; rintro e w2 ⟨rfl, rfl⟩
      go_wp2_with fail
      refine (sPeriodOf_no _ _ _ hv).mono ?_; rintro e w2 ⟨rfl, rfl⟩
      go_wp2_with fail
      go_ret
      exact ⟨rfl, HB.out⟩
set_option maxRecDepth 20000 in
set_option maxHeartbeats 1000000 in
theorem FnIsLoose_walk (x : Option Addr) (len cap : Nat) (w : World) (h : Code w x len cap) :
    Calls Try.prog 9 #[.slice x len cap] w fun e w' => e = .returned (.bool true) ∧ Below w.heap.size w w' := by
  by_cases hl : 1048576 < len
  · go_enter Try.func9, Try.ntmps9
    go_wp2_with fail
    go_ret
    exact ⟨rfl, Below.refl _ _⟩
  · go_enter Try.func9, Try.ntmps9
    go_wp2_with fail
    refine (drawIsLoose _ _ _ _ h).mono ?_; rintro e w1 ⟨n, s, rfl, n0, n1, s0, s1, hb⟩
    have HB := Lib.hid hb
    clear hb h hl
    by_cases hv : Tic.Valid n s
    · have g1 := hv.1
      have g2 := hv.2.1
      have hlt := hv.lt
      have hs := hv.lt_pow
      have HV := Lib.hid hv
      obtain ⟨N, rfl⟩ := Int.eq_ofNat_of_zero_le (show 0 ≤ n by omega)
      obtain ⟨S, rfl⟩ := Int.eq_ofNat_of_zero_le hv.2.2.1
      simp only [Int.toNat_natCast] at hs
      have HI : Hid (∀ w : World, Calls Try.prog 19 #[.int .i64 N, .int .i64 S] w fun e w' => e = .returned (.bool (decide ((Tic.per N S : Int) < (N : Int)))) ∧ Below w.heap.size w w') := Lib.hid (fun w => iIsLoose_yes (N : Int) (S : Int) w hv)
      have HS : Hid (∀ w : World, Calls Try.prog 41 #[.int .i64 N, .int .i64 S] w fun e w' => e = .returned (.bool (decide ((Tic.per N S : Int) < (N : Int)))) ∧ w = w') := Lib.hid (fun w => sIsLoose_yes (N : Int) (S : Int) w hv)
      obtain ⟨m1, _, _, m4, _, _⟩ := Tic.mov_spec (n := N) (by omega) (by omega) hs
      have HM := Lib.hid (fun w => iMovesOf_yes _ _ w hv)
      simp only [Int.toNat_natCast] at HM
      have hle := Tic.shs_le N S N
      obtain ⟨b, hb⟩ : ∃ b, b = decide ((Tic.per N S : Int) < (N : Int)) := ⟨_, rfl⟩
      have hbm : b = decide ((Tic.shs N S N : Int) > 1) := by
        rw [hb]
        refine decide_eq_decide.2 ?_
        generalize Tic.shs N S N = a at *
        generalize Tic.per N S = p at *
        constructor
        · intro h1
          rcases Nat.lt_or_ge 1 a with g | g
          · omega
          · obtain rfl : a = 1 := by omega
            rw [Nat.one_mul] at m4; omega
        · intro h1
          rcases Nat.lt_or_ge p N with g | g
          · omega
          · have h2 : 2 * p ≤ a * p := Nat.mul_le_mul (by omega) (Nat.le_refl p)
            omega
      rw [← hb] at HI HS
      clear hb m4 hs hv
      generalize Tic.shs N S N = a at hbm m1 hle HM
      have HBM := Lib.hid hbm
      clear hbm
      generalize Tic.trs N S N = c at HM
      go_wp2_with fail
      refine (HI.out _).mono ?_; rintro e w2 ⟨rfl, hb⟩
      replace HB := Lib.hid (HB.out.trans (hb.mono HB.out.size))
      clear hb
      go_wp2_with fail
      refine (HS.out _).mono ?_; rintro e w3 ⟨rfl, rfl⟩
      cases b with
      | false =>
        go_wp2_with fail
        refine (implValid_yes _ _ _ HV.out).mono ?_; rintro e w3 ⟨rfl, rfl⟩
        go_wp2_with fail
        refine (HM.out _).mono ?_; rintro e w2 ⟨rfl, hb⟩
        replace HB := Lib.hid (HB.out.trans (hb.mono HB.out.size))
        clear hb
        have ha : ¬ (a : Int) > 1 := of_decide_eq_false HBM.out.symm
        go_wp2_with fail
        go_ret
        exact ⟨ret_bool (by simp; omega), HB.out⟩
      | true =>
        go_wp2_with fail
        refine (implValid_yes _ _ _ HV.out).mono ?_; rintro e w3 ⟨rfl, rfl⟩
        go_wp2_with fail
        refine (HM.out _).mono ?_; rintro e w2 ⟨rfl, hb⟩
        replace HB := Lib.hid (HB.out.trans (hb.mono HB.out.size))
        clear hb
        have ha : (a : Int) > 1 := of_decide_eq_true HBM.out.symm
        go_wp2_with fail
        go_ret
        exact ⟨ret_bool (by simp), HB.out⟩
    · go_wp2_with fail
      refine (iIsLoose_no _ _ _ hv).mono ?_; rintro e w2 ⟨rfl, rfl⟩
      go_wp2_with fail
      refine (sIsLoose_no _ _ _ hv).mono ?_; rintro e w2 ⟨rfl, rfl⟩
      go_wp2_with fail
      refine (implValid_no _ _ _ hv).mono ?_; rintro e w2 ⟨rfl, rfl⟩
      go_wp2_with fail
      refine (sIsLoose_no _ _ _ hv).mono ?_; rintro e w2 ⟨rfl, rfl⟩
      go_wp2_with fail
      go_ret
      exact ⟨rfl, HB.out⟩
set_option maxRecDepth 20000 in
set_option maxHeartbeats 1000000 in
theorem FnIsOdd_walk (x : Option Addr) (len cap : Nat) (w : World) (h : Code w x len cap) :
    Calls Try.prog 5 #[.slice x len cap] w fun e w' => e = .returned (.bool true) ∧ Below w.heap.size w w' := by
  by_cases hl : 1048576 < len
  · go_enter Try.func5, Try.ntmps5
    go_wp2_with fail
    go_ret
    exact ⟨rfl, Below.refl _ _⟩
  · go_enter Try.func5, Try.ntmps5
    go_wp2_with fail
    refine (drawIsOdd _ _ _ _ h).mono ?_; rintro e w1 ⟨n, s, rfl, n0, n1, s0, s1, hb⟩
    have HB := Lib.hid hb
    clear hb h hl
    by_cases hv : Tic.Valid n s
    · have g1 := hv.1
      have g2 := hv.2.1
      have hlt := hv.lt
      have hs := hv.lt_pow
      have HV := Lib.hid hv
      obtain ⟨N, rfl⟩ := Int.eq_ofNat_of_zero_le (show 0 ≤ n by omega)
      obtain ⟨S, rfl⟩ := Int.eq_ofNat_of_zero_le hv.2.2.1
      simp only [Int.toNat_natCast] at hs
      have HI := Lib.hid (fun w => iIsOdd_yes _ _ w hv)
      have HS := Lib.hid (fun w => sIsOdd_yes _ _ w hv)
      have HSH := Lib.hid (fun w => iShiftSet_yes (N : Int) (S : Int) 1 w hv ⟨by omega, by omega⟩)
      have HI2 := Lib.hid (fun w => iIsOdd_yes _ _ w (Tic.valid_shf hv 1))
      have HW := Lib.hid (fun w => lweight_any (S : Int) w (by omega) hlt)
      have HG := Lib.hid (fun w => iGapsOf_yes _ _ w hv)
      simp only [Int.toNat_natCast] at HI HS HSH HI2 HW HG
      rw [odd_shf (by omega) (by omega) hs] at HI2
      have hhalf := odd_half (N := N) (by omega) (by omega) hs
      have hgap := odd_gaps (N := N) (by omega) (by omega) hs
      have hw12 := Tic.wt_le 12 S
      generalize Tic.shf N 1 S = S1 at HSH HI2
      generalize Tic.wt 12 S = c at hhalf hw12 HW
      clear hs hv
      by_cases hev : N % 2 = 0
      · have hg := hgap hev
        have hm0 : ((N : Int) % 2 == 1) = false := by rw [beq_eq_false_iff_ne]; omega
        have hmm : (N : Int) % 2 = 0 := by omega
        rw [hg] at HI HS HI2 hhalf
        obtain ⟨K, hK⟩ : ∃ K, N / 2 = K + 1 := ⟨N / 2 - 1, by omega⟩
        have hq1 : (N : Int) / 2 = (K : Int) + 1 := by omega
        have hKi : (K : Int) < ((K + 1 : Nat) : Int) := by omega
        have HRW : Hid (∀ (w : World) (v : Value) (B : Nat), Row w B v (Tic.gapsOf N S) → ∃ g c, v = .slice (some ⟨g, 0, none⟩) (K + 1) c ∧ w.cell? ⟨g, K, none⟩ = some (.int .i64 (Tic.gAll N S (N / 2 - 1) : Int))) := Lib.hid (fun w v B hr => by
          have hl : (Tic.gapsOf N S).length = N / 2 := Tic.cts_length _ _
          obtain ⟨a, c, e, hvw⟩ := hr.view
          obtain ⟨g, rfl, _, _, hcel⟩ := hvw (by rw [hl]; omega)
          rw [hl, hK] at e
          refine ⟨g, c, e, ?_⟩
          rw [hcel K (by rw [hl]; omega)]
          unfold Tic.gapsOf
          rw [Tic.cts_getD _ (by omega), show N / 2 - 1 = K by omega])
        clear hgap hg
        generalize Tic.gAll N S (N / 2 - 1) = z at HI HS HI2 hhalf HRW
        clear hev hK
        by_cases hz : z = 0
        · subst hz
          have h2 : 2 * c ≤ N := hhalf rfl
          have hbb : ((0 : Nat) == 0) = true := rfl
          rw [hbb] at HI HS HI2
          clear hhalf
          go_wp2_with fail
          refine (HI.out _).mono ?_; rintro e w2 ⟨rfl, hb⟩
          replace HB := Lib.hid (HB.out.trans (hb.mono HB.out.size))
          clear hb
          go_wp2_with fail
          refine (HS.out _).mono ?_; rintro e w3 ⟨rfl, rfl⟩
          go_wp2_with fail
          refine (implValid_yes _ _ _ HV.out).mono ?_; rintro e w3 ⟨rfl, rfl⟩
          go_wp2_with fail
          refine (HSH.out _).mono ?_; rintro e w2 ⟨rfl, hb⟩
          replace HB := Lib.hid (HB.out.trans (hb.mono HB.out.size))
          clear hb
          go_wp2_with fail
          refine (HI2.out _).mono ?_; rintro e w2 ⟨rfl, hb⟩
          replace HB := Lib.hid (HB.out.trans (hb.mono HB.out.size))
          clear hb
          go_wp2_with fail
          refine (HW.out _).mono ?_; rintro e w3 ⟨rfl, rfl⟩
          go_wp2_with fail
          refine (HG.out _).mono ?_; rintro e w4 ⟨v, rfl, hr, hb⟩
          obtain ⟨g, cp, rfl, hcel⟩ := HRW.out _ _ _ hr
          replace HB := Lib.hid (HB.out.trans (hb.mono HB.out.size))
          clear hb hr
          go_wp2_with fail
          go_ret
          exact ⟨rfl, HB.out⟩
        · have hbb : (z == 0) = false := by rw [beq_eq_false_iff_ne]; exact hz
          have hz2 : ((z : Int) == 0) = false := by rw [beq_eq_false_iff_ne]; omega
          rw [hbb] at HI HS HI2
          clear hhalf hbb
          go_wp2_with fail
          refine (HI.out _).mono ?_; rintro e w2 ⟨rfl, hb⟩
          replace HB := Lib.hid (HB.out.trans (hb.mono HB.out.size))
          clear hb
          go_wp2_with fail
          refine (HS.out _).mono ?_; rintro e w3 ⟨rfl, rfl⟩
          go_wp2_with fail
          refine (implValid_yes _ _ _ HV.out).mono ?_; rintro e w3 ⟨rfl, rfl⟩
          go_wp2_with fail
          refine (HSH.out _).mono ?_; rintro e w2 ⟨rfl, hb⟩
          replace HB := Lib.hid (HB.out.trans (hb.mono HB.out.size))
          clear hb
          go_wp2_with fail
          refine (HI2.out _).mono ?_; rintro e w2 ⟨rfl, hb⟩
          replace HB := Lib.hid (HB.out.trans (hb.mono HB.out.size))
          clear hb
          go_wp2_with fail
          refine (HG.out _).mono ?_; rintro e w4 ⟨v, rfl, hr, hb⟩
          obtain ⟨g, cp, rfl, hcel⟩ := HRW.out _ _ _ hr
          replace HB := Lib.hid (HB.out.trans (hb.mono HB.out.size))
          clear hb hr
          go_wp2_with fail
          go_ret
          exact ⟨rfl, HB.out⟩
      · clear hgap
        have hm1 : (N : Int) % 2 = 1 := by omega
        have hm0 : ((N : Int) % 2 == 1) = true := by rw [hm1]; rfl
        have hbn := odd_no (S := S) hev
        rw [hbn] at HI HS HI2
        clear hhalf hev hbn
        go_wp2_with fail
        refine (HI.out _).mono ?_; rintro e w2 ⟨rfl, hb⟩
        replace HB := Lib.hid (HB.out.trans (hb.mono HB.out.size))
        clear hb
        go_wp2_with fail
        refine (HS.out _).mono ?_; rintro e w3 ⟨rfl, rfl⟩
        go_wp2_with fail
        refine (implValid_yes _ _ _ HV.out).mono ?_; rintro e w3 ⟨rfl, rfl⟩
        go_wp2_with fail
        refine (HSH.out _).mono ?_; rintro e w2 ⟨rfl, hb⟩
        replace HB := Lib.hid (HB.out.trans (hb.mono HB.out.size))
        clear hb
        go_wp2_with fail
        refine (HI2.out _).mono ?_; rintro e w2 ⟨rfl, hb⟩
        replace HB := Lib.hid (HB.out.trans (hb.mono HB.out.size))
        clear hb
        go_wp2_with fail
        go_ret
        exact ⟨rfl, HB.out⟩
    · go_wp2_with fail
      refine (iIsOdd_no _ _ _ hv).mono ?_; rintro e w2 ⟨rfl, rfl⟩
      go_wp2_with fail
      refine (sIsOdd_no _ _ _ hv).mono ?_; rintro e w2 ⟨rfl, rfl⟩
      go_wp2_with fail
      refine (implValid_no _ _ _ hv).mono ?_; rintro e w2 ⟨rfl, rfl⟩
      go_wp2_with fail
      refine (sIsOdd_no _ _ _ hv).mono ?_; rintro e w2 ⟨rfl, rfl⟩
      go_wp2_with fail
      go_ret
      exact ⟨rfl, HB.out⟩
end Go.Proofs.Ytgpbgbcdlebaiaa
