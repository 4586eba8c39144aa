/-
  The walks of the laws of kinds, common tones and others.
-/
import Derived.Test.YtjppinifaiebdaaLaws1
import Derived.Test.YtjppinifaiebdaaKind
namespace Go.Proofs.Ytjppinifaiebdaa
open Go.RowKit
set_option linter.unusedVariables false

theorem tmod_emod2 (a n : Int) : a.tmod n % n = a % n := by
  rw [Int.tmod_def, Int.sub_emod, Int.mul_emod_right]
  simp

set_option maxRecDepth 20000 in
set_option maxHeartbeats 1000000 in
theorem FnPrimeOf_walk (x : Option Addr) (len cap : Nat) (w : World) (h : Code w x len cap) :
    Calls Try.prog 8 #[.slice x len cap] w fun e w' => e = .returned (.bool true) ∧ Below w.heap.size w w' := by
  by_cases hl : 1048576 < len
  · go_enter Try.func8, Try.ntmps8
    go_wp2_with fail
    go_ret
    exact ⟨rfl, Below.refl _ _⟩
  · go_enter Try.func8, Try.ntmps8
    go_wp2_with fail
    refine (drawPrimeOf _ _ _ _ h).mono ?_; rintro e w1 ⟨n, s, rfl, n0, n1, s0, s1, hb⟩
    have HB := Lib.hid hb
    clear hb h hl
    by_cases hv : Tic.Valid n s
    · have hN := hv.1
      have hN2 := hv.2.1
      have hs := hv.lt_pow
      obtain ⟨N, rfl⟩ := Int.eq_ofNat_of_zero_le (show 0 ≤ n by omega)
      obtain ⟨S, rfl⟩ := Int.eq_ofNat_of_zero_le hv.2.2.1
      rw [Int.toNat_natCast, Int.toNat_natCast] at hs
      have hs12 := hv.lt
      have E1 : Hid (∀ t : Int, Tic.prm N (Tic.shf N t S) = Tic.prm N S) := fun t => Tic.prm_shf (by omega) hs t
      have E2 : Hid (∀ t : Int, Tic.prm N (Tic.tur N t S) = Tic.prm N S) := fun t => Tic.prm_tur (by omega) hs t
      have E3 := Lib.hid (Tic.prm_prm (n := N) (by omega) hs)
      have E4 := Lib.hid (Tic.prm_gaps (n := N) (by omega) (by omega) hs)
      have hle : Tic.prm N S ≤ S := Tic.prm_le
      have hvp : Tic.Valid N (Tic.prm N S : Int) := by have := Tic.valid_prm hv; rw [Int.toNat_natCast, Int.toNat_natCast] at this; exact this
      have HS := Lib.hid hs
      clear hs
      go_wp2_with fail
      refine (iPrimeOf_yes _ _ _ hv).mono ?_; rintro e w2 ⟨rfl, hb⟩; rw [Int.toNat_natCast, Int.toNat_natCast]
      replace HB := Lib.hid (HB.out.trans (hb.mono HB.out.size))
      clear hb
      go_wp2_with fail
      refine (sPrimeOf_yes _ _ _ hv).mono ?_; rintro e w2 ⟨rfl, rfl⟩; rw [Int.toNat_natCast, Int.toNat_natCast]
      generalize hg : Tic.prm N S = q at E1 E2 E3 E4 hle hvp
      have HQ := Lib.hid hg
      clear hg
      go_wp2
      go_loopw [6] (fun t6 wr => ∃ k : Nat, k ≤ N ∧ t6 = .int .i64 k ∧ Hid (Below w.heap.size w wr)) (fun t6 _ => N - (intOf t6).toNat)
      case atStart => exact ⟨0, Nat.zero_le _, rfl, HB⟩
      case round =>
        obtain ⟨k, hk, rfl, HB⟩ := hrel
        by_cases hlt : k < N
        · have ht : Tic.Turn (k : Int) := ⟨by omega, by omega⟩
          have hv1 := Tic.valid_shf hv k
          have hv2 := Tic.valid_tur hv k
          go_wp2_with fail
          refine (iShiftSet_yes _ _ _ _ hv ht).mono ?_; rintro e w2 ⟨rfl, hb⟩
          replace HB := Lib.hid (HB.out.trans (hb.mono HB.out.size))
          clear hb
          go_wp2_with fail
          refine (iPrimeOf_yes _ _ _ hv1).mono ?_; rintro e w2 ⟨rfl, hb⟩; rw [Int.toNat_natCast, Int.toNat_natCast, Int.toNat_natCast, E1.out]
          replace HB := Lib.hid (HB.out.trans (hb.mono HB.out.size))
          clear hb
          go_wp2_with fail
          refine (iTurnSet_yes _ _ _ _ hv ht).mono ?_; rintro e w2 ⟨rfl, hb⟩
          replace HB := Lib.hid (HB.out.trans (hb.mono HB.out.size))
          clear hb
          go_wp2_with fail
          refine (iPrimeOf_yes _ _ _ hv2).mono ?_; rintro e w2 ⟨rfl, hb⟩; rw [Int.toNat_natCast, Int.toNat_natCast, Int.toNat_natCast, E2.out]
          replace HB := Lib.hid (HB.out.trans (hb.mono HB.out.size))
          clear hb
          clear hv1 hv2
          go_wp2
          go_roundw
          case rel => exact ⟨k + 1, by omega, by go_num, HB⟩
          case measure => simp [intOf]; omega
        · have : k = N := by omega
          subst this
          go_wp2_with fail
          refine (iPrimeOf_yes _ _ _ hvp).mono ?_; rintro e w2 ⟨rfl, hb⟩; rw [Int.toNat_natCast, Int.toNat_natCast, E3.out]
          replace HB := Lib.hid (HB.out.trans (hb.mono HB.out.size))
          clear hb
          go_wp2_with fail
          refine (iGapsOf_yes _ _ _ hvp).mono ?_; rintro e w2 ⟨v1, rfl, hr, hb⟩
          rw [Int.toNat_natCast, Int.toNat_natCast] at hr
          have R1 := Lib.hid hr
          clear hr
          replace HB := Lib.hid (HB.out.trans (hb.mono HB.out.size))
          clear hb
          go_wp2_with fail
          refine (iGapsOf_yes _ _ _ hv).mono ?_; rintro e w2 ⟨v2, rfl, hr, hb⟩
          rw [Int.toNat_natCast, Int.toNat_natCast, ← E4.out] at hr
          have R2 := Lib.hid hr
          replace R1 := Lib.hid (R1.out.kept hb)
          clear hr
          replace HB := Lib.hid (HB.out.trans (hb.mono HB.out.size))
          clear hb
          go_wp2_with fail
          refine (equalInts_yes _ _ _ _ _ _ R1.out R2.out).mono ?_; rintro e w2 ⟨rfl, hb⟩
          replace HB := Lib.hid (HB.out.trans (hb.mono HB.out.size))
          clear hb
          go_wp2_with fail
          go_ret
          exact ⟨rfl, HB.out⟩
    · skip
      go_wp2_with fail
      refine (iPrimeOf_no _ _ _ hv).mono ?_; rintro e w2 ⟨rfl, rfl⟩
      go_wp2_with fail
      refine (sPrimeOf_no _ _ _ hv).mono ?_; rintro e w2 ⟨rfl, rfl⟩
      go_wp2_with fail
      refine (sPrimeOf_no _ _ _ hv).mono ?_; rintro e w2 ⟨rfl, rfl⟩
      go_wp2_with fail
      go_ret
      exact ⟨rfl, HB.out⟩
set_option maxRecDepth 20000 in
set_option maxHeartbeats 1000000 in
theorem FnCommonOf_walk (x : Option Addr) (len cap : Nat) (w : World) (h : Code w x len cap) :
    Calls Try.prog 7 #[.slice x len cap] w fun e w' => e = .returned (.bool true) ∧ Below w.heap.size w w' := by
  by_cases hl : 1048576 < len
  · go_enter Try.func7, Try.ntmps7
    go_wp2_with fail
    go_ret
    exact ⟨rfl, Below.refl _ _⟩
  · go_enter Try.func7, Try.ntmps7
    go_wp2_with fail
    refine (drawCommonOf _ _ _ _ h).mono ?_; rintro e w1 ⟨n, s, t, rfl, n0, n1, s0, s1, t0, t1, hb⟩
    have HB := Lib.hid hb
    clear hb h hl
    by_cases hv : Tic.Valid n s ∧ Tic.Turn t
    · obtain ⟨hv, ht⟩ := hv
      have hN := hv.1
      have hN2 := hv.2.1
      have hs := hv.lt_pow
      obtain ⟨N, rfl⟩ := Int.eq_ofNat_of_zero_le (show 0 ≤ n by omega)
      obtain ⟨S, rfl⟩ := Int.eq_ofNat_of_zero_le hv.2.2.1
      rw [Int.toNat_natCast, Int.toNat_natCast] at hs
      have hs12 := hv.lt
      have hm0 := Int.emod_nonneg t (b := (N : Int)) (by omega)
      have hm1 := Int.emod_lt_of_pos t (b := (N : Int)) (by omega)
      obtain ⟨T, hT⟩ := Int.eq_ofNat_of_zero_le hm0
      have HR := Lib.hid (tmod_emod2 t N)
      have l1 := Int.lt_tmod_of_pos t (show (0 : Int) < N by omega)
      have l2 := Int.tmod_lt_of_pos t (show (0 : Int) < N by omega)
      have hTN : T < N := by omega
      have HT := Lib.hid hT
      clear hm0 hm1
      by_cases hT0 : T = 0
      · have E := Lib.hid (Tic.common_zero (n := N) (by omega) hs (t := t) (by rw [hT, hT0]; rfl))
        clear hT
        subst hT0
        go_wp2_with fail
        refine (iCommonOf_yes _ _ _ _ hv ht).mono ?_; rintro e w2 ⟨rfl, hb⟩; rw [Int.toNat_natCast, Int.toNat_natCast, E.out]
        replace HB := Lib.hid (HB.out.trans (hb.mono HB.out.size))
        clear hb
        go_wp2_with fail
        refine (sCommonOf_yes _ _ _ _ hv ht).mono ?_; rintro e w2 ⟨rfl, rfl⟩; rw [Int.toNat_natCast, Int.toNat_natCast, E.out]
        go_wp2_with fail
        rw [HR.out, HT.out]
        refine (lapart_any _ _ _ (by omega) (by omega) (by omega) (by omega)).mono ?_; rintro e w2 ⟨rfl, rfl⟩
        rw [show min ((0 : Nat) : Int) ((N : Int) - ((0 : Nat) : Int)) = 0 by omega]
        go_wp2_with fail
        refine (lweight_any _ _ (by omega) (by omega)).mono ?_; rintro e w2 ⟨rfl, rfl⟩; rw [Int.toNat_natCast]
        go_wp2_with fail
        go_ret
        exact ⟨rfl, HB.out⟩
      · have E0 := Tic.common_at (n := N) hs (by omega) hT (by omega) hTN
        clear hT
        have hd1 : 1 ≤ min T (N - T) := by omega
        have hd2 : min T (N - T) ≤ N / 2 := by omega
        have hd : min (T : Int) ((N : Int) - T) = ((min T (N - T) : Nat) : Int) := by omega
        have HD := Lib.hid hd
        generalize min T (N - T) = d at hd1 hd2 E0 HD
        clear hd
        have hcl : Tic.gAll N S (d - 1) ≤ 1000 := Tic.gS_le N S N 0 (d - 1) (by omega) (by omega) (by omega)
        have HC := Lib.hid (Tic.cts_getD (m := N / 2) (Tic.gAll N S) (show d - 1 < N / 2 by omega))
        rcases (show 2 * d = N ∨ 2 * d < N ∨ N < 2 * d by omega) with hdn | hdn | hdn
        · rw [if_pos hdn] at E0
          have E := Lib.hid E0
          clear E0
          go_wp2_with fail
          refine (iCommonOf_yes _ _ _ _ hv ht).mono ?_; rintro e w2 ⟨rfl, hb⟩; rw [Int.toNat_natCast, Int.toNat_natCast, E.out]
          replace HB := Lib.hid (HB.out.trans (hb.mono HB.out.size))
          clear hb
          go_wp2_with fail
          refine (sCommonOf_yes _ _ _ _ hv ht).mono ?_; rintro e w2 ⟨rfl, rfl⟩; rw [Int.toNat_natCast, Int.toNat_natCast, E.out]
          go_wp2_with fail
          rw [HR.out, HT.out]
          refine (lapart_any _ _ _ (by omega) (by omega) (by omega) (by omega)).mono ?_; rintro e w2 ⟨rfl, rfl⟩
          rw [HD.out]
          go_wp2_with fail
          refine (iGapsOf_yes _ _ _ hv).mono ?_; rintro e w2 ⟨v, rfl, hr, hb⟩
          rw [Int.toNat_natCast, Int.toNat_natCast] at hr
          replace HB := Lib.hid (HB.out.trans (hb.mono HB.out.size))
          clear hb
          rcases hr.cases with ⟨_, e⟩ | ⟨g, c, rfl, _, hg, hc, _⟩
          · exfalso
            have := congrArg List.length e
            simp [Tic.gapsOf, Tic.cts_length] at this
            omega
          · have hc1 := hc (d - 1) (by simp [Tic.gapsOf, Tic.cts_length]; omega)
            have hlen : (Tic.gapsOf N S).length = N / 2 := Tic.cts_length _ _
            rw [Tic.gapsOf, HC.out] at hc1
            rw [hlen]
            clear hc hlen hr
            generalize Tic.gAll N S (d - 1) = ga at hcl hc1
            go_wp2_with fail
            go_ret
            exact ⟨rfl, HB.out⟩
        · rw [if_neg (by omega), Nat.one_mul] at E0
          have E := Lib.hid E0
          clear E0
          go_wp2_with fail
          refine (iCommonOf_yes _ _ _ _ hv ht).mono ?_; rintro e w2 ⟨rfl, hb⟩; rw [Int.toNat_natCast, Int.toNat_natCast, E.out]
          replace HB := Lib.hid (HB.out.trans (hb.mono HB.out.size))
          clear hb
          go_wp2_with fail
          refine (sCommonOf_yes _ _ _ _ hv ht).mono ?_; rintro e w2 ⟨rfl, rfl⟩; rw [Int.toNat_natCast, Int.toNat_natCast, E.out]
          go_wp2_with fail
          rw [HR.out, HT.out]
          refine (lapart_any _ _ _ (by omega) (by omega) (by omega) (by omega)).mono ?_; rintro e w2 ⟨rfl, rfl⟩
          rw [HD.out]
          go_wp2_with fail
          refine (iGapsOf_yes _ _ _ hv).mono ?_; rintro e w2 ⟨v, rfl, hr, hb⟩
          rw [Int.toNat_natCast, Int.toNat_natCast] at hr
          replace HB := Lib.hid (HB.out.trans (hb.mono HB.out.size))
          clear hb
          rcases hr.cases with ⟨_, e⟩ | ⟨g, c, rfl, _, hg, hc, _⟩
          · exfalso
            have := congrArg List.length e
            simp [Tic.gapsOf, Tic.cts_length] at this
            omega
          · have hc1 := hc (d - 1) (by simp [Tic.gapsOf, Tic.cts_length]; omega)
            have hlen : (Tic.gapsOf N S).length = N / 2 := Tic.cts_length _ _
            rw [Tic.gapsOf, HC.out] at hc1
            rw [hlen]
            clear hc hlen hr
            generalize Tic.gAll N S (d - 1) = ga at hcl hc1
            go_wp2_with fail
            go_ret
            exact ⟨rfl, HB.out⟩
        · omega
    · skip
      go_wp2_with fail
      refine (iCommonOf_no _ _ _ _ hv).mono ?_; rintro e w2 ⟨rfl, rfl⟩
      go_wp2_with fail
      refine (sCommonOf_no _ _ _ _ hv).mono ?_; rintro e w2 ⟨rfl, rfl⟩
      go_wp2_with fail
      refine (sCommonOf_no _ _ _ _ hv).mono ?_; rintro e w2 ⟨rfl, rfl⟩
      go_wp2_with fail
      go_ret
      exact ⟨rfl, HB.out⟩
end Go.Proofs.Ytjppinifaiebdaa
