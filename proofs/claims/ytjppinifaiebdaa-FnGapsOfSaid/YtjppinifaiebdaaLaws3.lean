/-
  The walk of the law of others: gaps of others differ by the same.
-/
import Derived.Test.YtjppinifaiebdaaLaws2
namespace Go.Proofs.Ytjppinifaiebdaa
open Go.RowKit
set_option linter.unusedVariables false

theorem gaps_row {w : World} {B : Nat} {v : Value} {n s : Nat} (h : Row w B v (Tic.gapsOf n s)) (h3 : 3 ≤ n) : ∃ g c, v = .slice (some ⟨g, 0, none⟩) (n / 2) c ∧ g < w.heap.size ∧ ∀ d, d < n / 2 → w.cell? ⟨g, d, none⟩ = some (.int .i64 (Tic.gAll n s d)) := by
  rcases h.cases with ⟨_, e⟩ | ⟨g, c, rfl, _, hg, hc, _⟩
  · exfalso
    have := congrArg List.length e
    simp [Tic.gapsOf, Tic.cts_length] at this
    omega
  · have hlen : (Tic.gapsOf n s).length = n / 2 := Tic.cts_length _ _
    rw [hlen] at hc ⊢
    refine ⟨g, c, rfl, hg, fun d hd => ?_⟩
    rw [hc d hd, Tic.gapsOf, Tic.cts_getD _ hd]

set_option maxRecDepth 20000 in
set_option maxHeartbeats 1000000 in
theorem FnOthersOf_walk (x : Option Addr) (len cap : Nat) (w : World) (h : Code w x len cap) :
    Calls Try.prog 5 #[.slice x len cap] w fun e w' => e = .returned (.bool true) ∧ Below w.heap.size w w' := by
  by_cases hl : 1048576 < len
  · go_enter Try.func5, Try.ntmps5
    go_wp2_with fail
    go_ret
    exact ⟨rfl, Below.refl _ _⟩
  · go_enter Try.func5, Try.ntmps5
    go_wp2_with fail
    refine (drawOthersOf _ _ _ _ h).mono ?_; rintro e w1 ⟨n, s, rfl, n0, n1, s0, s1, hb⟩
    have HB := Lib.hid hb
    clear hb h hl
    by_cases hv : Tic.Valid n s
    · have hN := hv.1
      have hN2 := hv.2.1
      have hs := hv.lt_pow
      have hvo := Tic.valid_oth hv
      have e1 := Tic.oth_int hv
      have hs12 := hv.lt
      have hs00 := hv.2.2.1
      obtain ⟨N, rfl⟩ := Int.eq_ofNat_of_zero_le (show 0 ≤ n by omega)
      obtain ⟨S, rfl⟩ := Int.eq_ofNat_of_zero_le hv.2.2.1
      rw [Int.toNat_natCast, Int.toNat_natCast] at hs e1
      rw [Int.toNat_natCast] at hvo
      have EO : Hid (∀ d, d < N / 2 → 2 * Tic.gAll N (Tic.oth N S) d + (if 2 * (d + 1) = N then 1 else 2) * Tic.wt 12 S = 2 * Tic.gAll N S d + (if 2 * (d + 1) = N then 1 else 2) * Tic.wt 12 (Tic.oth N S)) := fun d hd => Tic.gAll_oth hs (by omega) hd
      have EW := Tic.wt_oth hs (by omega)
      have hpp : Tic.oth N S < 2 ^ N := Tic.oth_lt
      have EB : Hid (((2 ^ N : Nat) : Int) - 1 - (((2 ^ N : Nat) : Int) - 1 - (S : Int)) = S) := by show _ = _; omega
      have HE := Lib.hid e1
      clear hs e1 hpp
      have hvo2 := hvo
      rw [HE.out] at hvo2
      have ho0 := hvo2.2.2.1
      go_wp2_with fail
      refine (iOthersOf_yes _ _ _ hv).mono ?_; rintro e w2 ⟨rfl, hb⟩; rw [Int.toNat_natCast, HE.out]
      replace HB := Lib.hid (HB.out.trans (hb.mono HB.out.size))
      clear hb
      go_wp2_with fail
      refine (sOthersOf_yes _ _ _ hv).mono ?_; rintro e w2 ⟨rfl, rfl⟩; rw [Int.toNat_natCast, HE.out]
      generalize hg : Tic.oth N S = O at EO EW HE hvo2 ho0
      have HO := Lib.hid hg
      clear hg
      generalize hm : Tic.wt 12 S = m at EO EW
      have HM := Lib.hid hm
      clear hm
      go_wp2_with fail
      refine (iGapsOf_yes _ _ _ hv).mono ?_; rintro e w2 ⟨v1, rfl, hr, hb⟩
      rw [Int.toNat_natCast, Int.toNat_natCast] at hr
      obtain ⟨ga, ca, rfl, hga, hca⟩ := gaps_row hr (by omega)
      have CA := Lib.hid hca
      clear hr hca
      replace HB := Lib.hid (HB.out.trans (hb.mono HB.out.size))
      clear hb
      go_wp2_with fail
      refine (iGapsOf_yes _ _ _ hvo2).mono ?_; rintro e w3 ⟨v2, rfl, hr, hb⟩
      rw [Int.toNat_natCast, Int.toNat_natCast] at hr
      obtain ⟨gb, cb, rfl, hgb, hcb⟩ := gaps_row hr (by omega)
      have CB := Lib.hid hcb
      have CA2 : Hid (∀ d, d < N / 2 → w3.cell? ⟨ga, d, none⟩ = some (.int .i64 (Tic.gAll N S d))) := fun d hd => (hb.cell (p := ⟨ga, d, none⟩) hga).trans (CA.out d hd)
      have hga2 : ga < w3.heap.size := by have := hb.size; omega
      clear hr hcb CA hga
      replace HB := Lib.hid (HB.out.trans (hb.mono HB.out.size))
      clear hb
      go_wp2
      go_loopw [8, 9] (fun t8 t9 wr => ∃ d : Nat, 1 ≤ d ∧ d ≤ N / 2 + 1 ∧ t8 = .int .i64 d ∧ Hid (Below w3.heap.size w3 wr)) (fun t8 _ _ => N + 1 - (intOf t8).toNat)
      case atStart => exact ⟨1, by omega, by omega, rfl, Below.refl _ _⟩
      case round =>
        obtain ⟨d, hd0, hd, rfl, H3⟩ := hrel
        by_cases hlt : d ≤ N / 2
        · have c1 := (H3.out.cell (p := ⟨ga, d - 1, none⟩) hga2).trans (CA2.out (d - 1) (by omega))
          have c2 := (H3.out.cell (p := ⟨gb, d - 1, none⟩) hgb).trans (CB.out (d - 1) (by omega))
          have b1 : Tic.gAll N S (d - 1) ≤ 1000 := Tic.gS_le N S N 0 (d - 1) (by omega) (by omega) (by omega)
          have b2 : Tic.gAll N O (d - 1) ≤ 1000 := Tic.gS_le N O N 0 (d - 1) (by omega) (by omega) (by omega)
          have eq := EO.out (d - 1) (by omega)
          rw [show d - 1 + 1 = d by omega] at eq
          generalize Tic.gAll N S (d - 1) = y at c1 b1 eq
          generalize Tic.gAll N O (d - 1) = x at c2 b2 eq
          by_cases h2 : 2 * d = N
          · rw [if_pos h2] at eq
            have q1 : (x : Int) ≤ y + (d - m) := by omega
            have q2 : (y : Int) + (d - m) ≤ x := by omega
            have ht : ((N : Int) - 2 * m).tdiv 2 = (d : Int) - m := by
              rw [show (N : Int) - 2 * m = 2 * ((d : Int) - m) by omega]
              exact Int.mul_tdiv_cancel_left _ (by omega)
            clear eq
            go_wp2_with fail
            refine (lweight_any _ _ (by omega) (by omega)).mono ?_; rintro e w4 ⟨rfl, rfl⟩; rw [Int.toNat_natCast, HM.out]
            go_wp2
            have hi0 : (0 : Int) ≤ (d : Int) - 1 := by omega
            have hi1 : (d : Int) - 1 < ((N / 2 : Nat) : Int) := by omega
            go_region
            all_goals
              go_wp2
              go_roundw
              case rel => exact ⟨d + 1, by omega, by omega, by go_num, H3.out.drew⟩
              case measure => simp [intOf]; omega
          · rw [if_neg h2] at eq
            have q1 : (x : Int) ≤ y + (N - 2 * m) := by omega
            have q2 : (y : Int) + (N - 2 * m) ≤ x := by omega
            clear eq
            go_wp2_with fail
            refine (lweight_any _ _ (by omega) (by omega)).mono ?_; rintro e w4 ⟨rfl, rfl⟩; rw [Int.toNat_natCast, HM.out]
            go_wp2
            have hi0 : (0 : Int) ≤ (d : Int) - 1 := by omega
            have hi1 : (d : Int) - 1 < ((N / 2 : Nat) : Int) := by omega
            go_region
            all_goals
              go_wp2
              go_roundw
              case rel => exact ⟨d + 1, by omega, by omega, by go_num, H3.out.drew⟩
              case measure => simp [intOf]; omega
        · have hEB : d = N / 2 + 1 := by omega
          subst hEB
          have HB2 := Lib.hid (HB.out.trans (H3.out.mono HB.out.size))
          go_wp2_with fail
          refine (iOthersOf_yes _ _ _ hvo2).mono ?_; rintro e w5 ⟨rfl, hb⟩
          rw [Int.toNat_natCast, ← HE.out, EB.out]
          go_wp2_with fail
          go_ret
          exact ⟨rfl, HB2.out.trans (hb.mono HB2.out.size)⟩
    · skip
      go_wp2_with fail
      refine (iOthersOf_no _ _ _ hv).mono ?_; rintro e w2 ⟨rfl, rfl⟩
      go_wp2_with fail
      refine (sOthersOf_no _ _ _ hv).mono ?_; rintro e w2 ⟨rfl, rfl⟩
      go_wp2_with fail
      refine (sOthersOf_no _ _ _ hv).mono ?_; rintro e w2 ⟨rfl, rfl⟩
      go_wp2_with fail
      go_ret
      exact ⟨rfl, HB.out⟩
end Go.Proofs.Ytjppinifaiebdaa
