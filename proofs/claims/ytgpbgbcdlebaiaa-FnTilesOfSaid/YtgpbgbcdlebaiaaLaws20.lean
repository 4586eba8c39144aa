/-
  The walk of the law of tiles.
-/
import Derived.Test.YtgpbgbcdlebaiaaLaws18
import Derived.Test.YtgpbgbcdlebaiaaLawBit
import Derived.Test.YtgpbgbcdlebaiaaTilesOf
import Derived.Test.YtgpbgbcdlebaiaaPeriod
import Derived.Test.YtgpbgbcdlebaiaaTreeTab
namespace Go.Proofs.Ytgpbgbcdlebaiaa
open Go.RowKit
set_option linter.unusedVariables false

set_option maxRecDepth 20000 in
set_option maxHeartbeats 2000000 in
theorem FnTilesOf_walk (x : Option Addr) (len cap : Nat) (w : World) (h : Code w x len cap) :
    Calls Try.prog 7 #[.slice x len cap] w fun e w' => e = .returned (.bool true) ∧ Below w.heap.size w w' := by
  by_cases hl : 1048576 < len
  · go_enter Try.func7, Try.ntmps7
    go_wp2_with fail
    go_ret
    exact ⟨rfl, Below.refl _ _⟩
  · go_enter Try.func7, Try.ntmps7
    go_wp2_with fail
    refine (drawTilesOf _ _ _ _ h).mono ?_; rintro e w1 ⟨n, s, rfl, n0, n1, s0, s1, hb⟩
    have HB := Lib.hid hb
    clear hb h hl
    by_cases hv : Tic.Valid n s
    · have g1 := hv.1
      have g2 := hv.2.1
      have hlt := hv.lt
      have hs := hv.lt_pow
      have HV := Lib.hid hv
      obtain ⟨N, rfl⟩ := Int.eq_ofNat_of_zero_le (show 0 ≤ n by omega)
      obtain ⟨S, rfl⟩ := Int.eq_ofNat_of_zero_le hv.2.2.1
      simp only [Int.toNat_natCast] at hs
      have HI := Lib.hid (fun w => iTilesOf_yes _ _ w hv)
      have HS := Lib.hid (fun w => sTilesOf_yes _ _ w hv)
      have HFA := Lib.hid (fun w => iFactorsOf_yes _ _ w hv)
      have HW := Lib.hid (fun w => lweight_any (S : Int) w (by omega) hlt)
      have HPW := Lib.hid (fun w => lpower_any (N : Int) w (by omega) (by omega))
      have hpN := Tic.pow_le_12 g2
      simp only [Int.toNat_natCast] at HI HS HFA HW HPW hpN
      have HLS : Hid (∀ w : World, Calls Try.prog 19 #[.int .i64 N, .int .i64 S] w fun e w' => e = .returned (.bool (decide ((Tic.per N S : Int) < (N : Int)))) ∧ Below w.heap.size w w') := Lib.hid (fun w => iIsLoose_yes (N : Int) (S : Int) w hv)
      obtain ⟨P, hP⟩ : ∃ P, P = 2 ^ N := ⟨_, rfl⟩
      have HEL : Hid (∀ y, y ∈ Tic.tlTo N S (2 ^ (N - 1)) → ∃ b : Nat, y = b ∧ b < P ∧ (Tic.per N S < N ∨ Tic.per N b < N) ∧ Tic.prodF (Tic.factors N S) = Tic.wt 12 S ∧
          (∀ w : World, Calls Try.prog 26 #[.int .i64 N, .int .i64 S, .int .i64 b] w fun e w' => e = .returned (.tuple #[.int .i64 ((P : Int) - 1), .bool true]) ∧ Below w.heap.size w w') ∧
          (∀ w : World, Calls Try.prog 33 #[.int .i64 b, .int .i64 0] w fun e w' => e = .returned (.int .i64 1) ∧ w = w') ∧
          (∀ w : World, Calls Try.prog 19 #[.int .i64 N, .int .i64 b] w fun e w' => e = .returned (.bool (decide ((Tic.per N b : Int) < (N : Int)))) ∧ Below w.heap.size w w')) := Lib.hid (fun y hy => by
        obtain ⟨b, e, b1, b2, b3, b4, b5⟩ := Tic.tile_facts (n := N) (by omega) (by omega) hs y hy
        have hvb : Tic.Valid (N : Int) (b : Int) := ⟨g1, g2, Int.natCast_nonneg _, by rw [Int.toNat_natCast]; exact Int.ofNat_lt.2 b1⟩
        unfold Tic.tile at b3
        rw [Bool.and_eq_true, beq_iff_eq] at b3
        refine ⟨b, e, by rw [hP]; exact b1, b4, b5, fun w => ?_, fun w => ?_, fun w => iIsLoose_yes (N : Int) (b : Int) w hvb⟩
        · have := iSumsOf_yes (N : Int) (S : Int) (b : Int) w ⟨hv, hvb⟩
          simp only [Int.toNat_natCast] at this
          rw [b3.1, b3.2, show ((2 ^ N - 1 : Nat) : Int) = (P : Int) - 1 by rw [hP]; have := Nat.two_pow_pos N; omega] at this
          exact this
        · have := lbit_any (b : Int) 0 w (by omega) (by omega) (by omega) (by omega)
          rw [Int.toNat_natCast, Tic.bitI_true (by rw [show (0 : Int).toNat = 0 from rfl, Nat.testBit_zero]; simp [b2])] at this
          exact this)
      have HAS : Hid ((Tic.tlTo N S (2 ^ (N - 1))).Pairwise (· < ·)) := Lib.hid (Tic.asc_tlTo N S _)
      rw [← hP] at HPW hpN
      have HPP := Lib.hid (Tic.fac_prod (n := N) (by omega) (by omega) hs)
      have HFE : Hid (∀ y, y ∈ Tic.factors N S → ∃ j : Nat, y = j ∧ 2 ≤ j ∧ j ≤ 12) := Lib.hid (fun y hy => by
        obtain ⟨j, a, b, c, d⟩ := Tic.mem_flTo N S y (N + 1) hy
        exact ⟨j, a, c, by omega⟩)
      have HPR := Lib.hid (fun (v : Value) (B : Nat) (w : World) (h : Row w B v (Tic.factors N S)) => lproduct_any _ v B w h HFE.out HPP.out.2.2)
      have hw12 := Tic.wt_le 12 S
      generalize Tic.wt 12 S = c at hw12 HW HEL
      generalize Tic.prodF (Tic.factors N S) = q at HEL HPR
      generalize Tic.factors N S = G at HFA HPR
      generalize Tic.tlTo N S (2 ^ (N - 1)) = F at HI HS HEL HAS
      generalize Tic.per N S = pS at HLS HEL
      have HLA := Lib.hid (fun (v : Value) (B : Nat) (w : World) (h : Row w B v F) => lascends_any F v B w h HAS.out (fun y hy => by obtain ⟨j, rfl, b, _⟩ := HEL.out y hy; omega))
      clear hs hv hP HPP HFE
      go_wp2_with fail
      refine (HI.out _).mono ?_; rintro e w2 ⟨v0, rfl, hr, hb⟩
      have R0 := Lib.hid hr
      replace HB := Lib.hid (HB.out.trans (hb.mono HB.out.size))
      clear hb hr
      go_wp2_with fail
      refine (HS.out _).mono ?_; rintro e w2 ⟨v1, rfl, hr, hb⟩
      have R1 := Lib.hid hr
      replace R0 := Lib.hid (R0.out.kept hb)
      replace HB := Lib.hid (HB.out.trans (hb.mono HB.out.size))
      clear hb hr
      go_wp2_with fail
      refine (equalInts_yes _ _ _ _ _ _ R0.out R1.out).mono ?_; rintro e w5 ⟨rfl, hb⟩
      replace R0 := Lib.hid (R0.out.kept hb)
      replace HB := Lib.hid (HB.out.trans (hb.mono HB.out.size))
      clear hb
      go_wp2_with fail
      refine (implValid_yes _ _ _ HV.out).mono ?_; rintro e w3 ⟨rfl, rfl⟩
      have hl2 := R0.out.2
      obtain ⟨a, cp, rfl, _⟩ := R0.out.view
      obtain ⟨BB, hBB⟩ : ∃ BB, Hid (Row w5 BB (.slice a F.length cp) F) := ⟨_, R0⟩
      clear R0
      go_wp2
      go_loopw [6, 7, 8] (fun t6 t7 t8 wr => ∃ i : Nat, i ≤ F.length ∧ t6 = .int .i64 i ∧ Hid (Row wr BB (.slice a F.length cp) F) ∧ Hid (Below w.heap.size w wr)) (fun t6 _ _ _ => F.length - (intOf t6).toNat)
      case atStart => exact ⟨0, Nat.zero_le _, rfl, hBB, HB⟩
      case round =>
        clear hBB HB
        obtain ⟨i, hi, rfl, R0, HB⟩ := hrel
        by_cases hli : i < F.length
        · obtain ⟨a', c', e, hvw⟩ := R0.out.view
          injection e with e1 _ e2
          subst e1 e2
          obtain ⟨g, rfl, _, hgl, hcel⟩ := hvw (by omega)
          have hcl := hcel i hli
          obtain ⟨b, hb, hb1, hb2, hb3, HSU, HBT, HLB⟩ := HEL.out _ (getD_mem hli)
          rw [hb] at hcl
          have HSU := Lib.hid HSU
          have HBT := Lib.hid HBT
          have HLB := Lib.hid HLB
          clear hcel hvw hb hb3
          go_wp2_with fail
          refine (HSU.out _).mono ?_; rintro e w5 ⟨rfl, hb⟩
          have hcl2 := (hb.cell (p := ⟨g, i, none⟩) hgl).trans hcl
          replace R0 := Lib.hid (R0.out.kept hb)
          replace HB := Lib.hid (HB.out.trans (hb.mono HB.out.size))
          have hgl2 := Nat.lt_of_lt_of_le hgl hb.size
          clear hb hcl
          go_wp2_with fail
          refine (HPW.out _).mono ?_; rintro e w3 ⟨rfl, rfl⟩
          go_wp2_with fail
          refine (HBT.out _).mono ?_; rintro e w3 ⟨rfl, rfl⟩
          by_cases hps : pS < N
          · have hpi : (pS : Int) < (N : Int) := by omega
            go_wp2_with fail
            refine (HLS.out _).mono ?_; rintro e w6 ⟨rfl, hb⟩
            rw [decide_eq_true hpi]
            replace R0 := Lib.hid (R0.out.kept hb)
            replace HB := Lib.hid (HB.out.trans (hb.mono HB.out.size))
            clear hb
            go_wp2
            go_roundw
            case rel => exact ⟨i + 1, by omega, by go_num, R0, HB⟩
            case measure => simp [intOf]; omega
          · have hpi : ¬ (pS : Int) < (N : Int) := by omega
            have hpb : ((Tic.per N b : Nat) : Int) < (N : Int) := by
              rcases hb2 with h | h
              · exact absurd h hps
              · omega
            go_wp2_with fail
            refine (HLS.out _).mono ?_; rintro e w6 ⟨rfl, hb⟩
            rw [decide_eq_false (show ¬ (pS : Int) < (N : Int) by omega)]
            have hcl3 := (hb.cell (p := ⟨g, i, none⟩) hgl2).trans hcl2
            replace R0 := Lib.hid (R0.out.kept hb)
            replace HB := Lib.hid (HB.out.trans (hb.mono HB.out.size))
            clear hb hcl2
            go_wp2_with fail
            refine (HLB.out _).mono ?_; rintro e w7 ⟨rfl, hb⟩
            rw [decide_eq_true (show ((Tic.per N b : Nat) : Int) < (N : Int) by omega)]
            replace R0 := Lib.hid (R0.out.kept hb)
            replace HB := Lib.hid (HB.out.trans (hb.mono HB.out.size))
            clear hb hpb
            go_wp2
            go_roundw
            case rel => exact ⟨i + 1, by omega, by go_num, R0, HB⟩
            case measure => simp [intOf]; omega
        · obtain rfl : i = F.length := by omega
          go_wp2_with fail
          refine (HLA.out _ _ _ R0.out).mono ?_; rintro e w5 ⟨rfl, hb⟩
          replace HB := Lib.hid (HB.out.trans (hb.mono HB.out.size))
          clear hb R0
          by_cases hF : F.length = 0
          · have hF2 : ((F.length : Int) == 0) = true := by rw [hF]; rfl
            go_wp2_with fail
            go_ret
            exact ⟨rfl, HB.out⟩
          · have hF2 : ((F.length : Int) == 0) = false := by rw [beq_eq_false_iff_ne]; omega
            obtain ⟨_, _, _, _, hqc, _⟩ := HEL.out _ (getD_mem (L := F) (i := 0) (by omega))
            subst hqc
            go_wp2_with fail
            refine (HFA.out _).mono ?_; rintro e w2 ⟨v7, rfl, hr, hb⟩
            have R7 := Lib.hid hr
            replace HB := Lib.hid (HB.out.trans (hb.mono HB.out.size))
            clear hb hr
            go_wp2_with fail
            refine (HPR.out _ _ _ R7.out).mono ?_; rintro e w3 ⟨rfl, rfl⟩
            go_wp2_with fail
            refine (HW.out _).mono ?_; rintro e w3 ⟨rfl, rfl⟩
            go_wp2_with fail
            go_ret
            exact ⟨rfl, HB.out⟩
    · skip
      go_wp2_with fail
      refine (iTilesOf_no _ _ _ hv).mono ?_; rintro e w2 ⟨v0, rfl, hr, hb⟩
      have R0 := Lib.hid hr
      replace HB := Lib.hid (HB.out.trans (hb.mono HB.out.size))
      clear hb hr
      go_wp2_with fail
      refine (sTilesOf_no _ _ _ hv).mono ?_; rintro e w2 ⟨v1, rfl, hr, hb⟩
      have R1 := Lib.hid hr
      replace R0 := Lib.hid (R0.out.kept hb)
      replace HB := Lib.hid (HB.out.trans (hb.mono HB.out.size))
      clear hb hr
      go_wp2_with fail
      refine (equalInts_yes _ _ _ _ _ _ R0.out R1.out).mono ?_; rintro e w5 ⟨rfl, hb⟩
      replace R0 := Lib.hid (R0.out.kept hb)
      replace HB := Lib.hid (HB.out.trans (hb.mono HB.out.size))
      clear hb
      go_wp2_with fail
      refine (implValid_no _ _ _ hv).mono ?_; rintro e w3 ⟨rfl, rfl⟩
      go_wp2_with fail
      refine (sTilesOf_no _ _ _ hv).mono ?_; rintro e w2 ⟨v2, rfl, hr, hb⟩
      have R2 := Lib.hid hr
      replace R0 := Lib.hid (R0.out.kept hb)
      replace HB := Lib.hid (HB.out.trans (hb.mono HB.out.size))
      clear hb hr
      go_wp2_with fail
      refine (equalInts_yes _ _ _ _ _ _ R0.out R2.out).mono ?_; rintro e w5 ⟨rfl, hb⟩
      replace HB := Lib.hid (HB.out.trans (hb.mono HB.out.size))
      clear hb
      go_wp2_with fail
      go_ret
      exact ⟨rfl, HB.out⟩
end Go.Proofs.Ytgpbgbcdlebaiaa
