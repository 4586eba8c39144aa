/-
  The walks of the laws of sizes and of deep sets.
-/
import Derived.Test.YtmofhhffkppelaaLaws7
import Derived.Test.YtmofhhffkppelaaDeep
namespace Go.Proofs.Ytmofhhffkppelaa
open Go.RowKit
set_option linter.unusedVariables false

theorem deepTo_diff {L : List Int} : ∀ k, k ≤ L.length → deepTo L k = true → ∀ i j, i < j → j < k → L.getD i 0 ≠ L.getD j 0
  | 0, _, _ => fun i j _ h => by omega
  | k + 1, hk, h => by
    unfold deepTo at h
    rw [Bool.and_eq_true] at h
    intro i j hij hj
    by_cases e : j = k
    · subst e
      intro he
      have := (take_mem (L := L) (k := j) (x := L.getD j 0) (by omega)).2 ⟨i, hij, he⟩
      rw [this] at h
      cases h.2
    · exact deepTo_diff k (by omega) h.1 i j hij (by omega)
theorem gapsOf_at {n s t : Nat} (h : t < n / 2) : (Tic.gapsOf n s).getD t 0 = (Tic.gAll n s t : Int) := Tic.cts_getD _ h
set_option maxRecDepth 20000 in
set_option maxHeartbeats 1600000 in
theorem FnIsDeep_walk (x : Option Addr) (len cap : Nat) (w : World) (h : Code w x len cap) :
    Calls Try.prog 5 #[.slice x len cap] w fun e w' => e = .returned (.bool true) ∧ Below w.heap.size w w' := by
  by_cases hl : 1048576 < len
  · go_enter Try.func5, Try.ntmps5
    go_wp2_with fail
    go_ret
    exact ⟨rfl, Below.refl _ _⟩
  · go_enter Try.func5, Try.ntmps5
    go_wp2_with fail
    refine (drawIsDeep _ _ _ _ h).mono ?_; rintro e w1 ⟨n, s, rfl, n0, n1, s0, s1, hb⟩
    have HB := Lib.hid hb
    clear hb h hl
    by_cases hva : Tic.Valid n s
    · have HVA := Lib.hid hva
      have a1 := hva.1
      have a2 := hva.2.1
      have hs := hva.lt_pow
      obtain ⟨N, rfl⟩ := Int.eq_ofNat_of_zero_le (show 0 ≤ n by omega)
      obtain ⟨S, rfl⟩ := Int.eq_ofNat_of_zero_le hva.2.2.1
      simp only [Int.toNat_natCast] at hs
      have HVP := Lib.hid (Tic.valid_prm hva)
      have HPG := Lib.hid (Tic.prm_gaps (n := N) (s := S) (by omega) (by omega) hs)
      have HCM : Hid (deepTo (Tic.gapsOf N S) (Tic.gapsOf N S).length = true → ∀ t u : Nat, 1 ≤ u → u < t → 2 * t < N → (Tic.wt 12 (S &&& Tic.shf N (t : Int) S) : Int) ≠ (Tic.wt 12 (S &&& Tic.shf N (u : Int) S) : Int)) := Lib.hid (fun hd t u hu hut ht => by
        rw [Tic.common_at (t := (t : Int)) (T := t) hs (by omega) (Int.emod_eq_of_lt (by omega) (by omega)) (by omega) (by omega), Tic.common_at (t := (u : Int)) (T := u) hs (by omega) (Int.emod_eq_of_lt (by omega) (by omega)) (by omega) (by omega)]
        rw [show min t (N - t) = t by omega, show min u (N - u) = u by omega, if_neg (by omega), if_neg (by omega), Nat.one_mul, Nat.one_mul]
        have hlen : (Tic.gapsOf N S).length = N / 2 := Tic.cts_length _ _
        have := deepTo_diff _ (Nat.le_refl _) hd (u - 1) (t - 1) (by omega) (by rw [hlen]; omega)
        rw [gapsOf_at (by omega), gapsOf_at (by omega)] at this
        omega)
      clear hs
      go_wp2_with fail
      refine (iIsDeep_yes _ _ _ HVA.out).mono ?_; rintro e w2 ⟨rfl, hb⟩
      simp only [Int.toNat_natCast]
      replace HB := Lib.hid (HB.out.trans (hb.mono HB.out.size))
      clear hb
      go_wp2_with fail
      refine (sIsDeep_yes _ _ _ HVA.out).mono ?_; rintro e w2 ⟨rfl, hb⟩
      simp only [Int.toNat_natCast]
      replace HB := Lib.hid (HB.out.trans (hb.mono HB.out.size))
      clear hb
      have HPP : Hid (deepTo (Tic.gapsOf N (Tic.prm N S)) (Tic.gapsOf N (Tic.prm N S)).length = deepTo (Tic.gapsOf N S) (Tic.gapsOf N S).length) := Lib.hid (by rw [HPG.out])
      generalize deepTo (Tic.gapsOf N S) (Tic.gapsOf N S).length = b at HCM HPP ⊢
      cases b with
      | false =>
        go_wp2_with fail
        refine (implValid_yes _ _ _ HVA.out).mono ?_; rintro e w2 ⟨rfl, rfl⟩
        go_wp2
        refine wp_loop_rounds 1 ?_
        rw [rounds_succ]
        go_wp2_with fail
        refine (iPrimeOf_yes _ _ _ HVA.out).mono ?_; rintro e w2 ⟨rfl, hb⟩
        replace HB := Lib.hid (HB.out.trans (hb.mono HB.out.size))
        clear hb
        go_wp2_with fail
        refine (iIsDeep_yes _ _ _ HVP.out).mono ?_; rintro e w2 ⟨rfl, hb⟩
        simp only [Int.toNat_natCast]
        rw [HPP.out]
        replace HB := Lib.hid (HB.out.trans (hb.mono HB.out.size))
        clear hb
        go_wp2
        go_ret
        exact ⟨rfl, HB.out⟩
      | true =>
        have HNE := Lib.hid (HCM.out rfl)
        clear HCM
        go_wp2_with fail
        refine (implValid_yes _ _ _ HVA.out).mono ?_; rintro e w2 ⟨rfl, rfl⟩
        go_wp2
        go_loopw [6, 7] (fun t6 _ wr => ∃ t : Nat, 1 ≤ t ∧ t ≤ 7 ∧ t6 = .int .i64 t ∧ Hid (Below w.heap.size w wr)) (fun t6 _ _ => 13 - (intOf t6).toNat)
        case atStart => exact ⟨1, by omega, by omega, rfl, HB⟩
        case round =>
          obtain ⟨t, ht1, ht2, rfl, HB⟩ := hrel
          have hs1 := IntWalk.i64_in (2 * (t : Int)) (by omega)
          by_cases hlt : 2 * t < N
          · go_wp2
            go_loopw [7] (fun t7 wi => ∃ u : Nat, 1 ≤ u ∧ u ≤ t ∧ t7 = .int .i64 u ∧ Hid (Below w.heap.size w wi)) (fun t7 _ => 13 - (intOf t7).toNat)
            case atStart => exact ⟨1, by omega, by omega, rfl, HB⟩
            case round =>
              obtain ⟨u, hu1, hu2, rfl, HB⟩ := hrel
              by_cases hlu : u < t
              · have hne := HNE.out t u hu1 hlu hlt
                go_wp2_with fail
                refine (iCommonOf_yes _ _ _ _ HVA.out ⟨by omega, by omega⟩).mono ?_; rintro e w2 ⟨rfl, hb⟩
                simp only [Int.toNat_natCast]
                replace HB := Lib.hid (HB.out.trans (hb.mono HB.out.size))
                clear hb
                go_wp2_with fail
                refine (iCommonOf_yes _ _ _ _ HVA.out ⟨by omega, by omega⟩).mono ?_; rintro e w2 ⟨rfl, hb⟩
                simp only [Int.toNat_natCast]
                replace HB := Lib.hid (HB.out.trans (hb.mono HB.out.size))
                clear hb
                generalize Tic.wt 12 (S &&& Tic.shf N (t : Int) S) = p at hne ⊢
                generalize Tic.wt 12 (S &&& Tic.shf N (u : Int) S) = q at hne ⊢
                go_wp2
                go_roundw
                case rel => exact ⟨u + 1, by omega, by omega, by go_num, HB⟩
                case measure => simp [intOf]; omega
              · go_wp2
                go_roundw
                case rel => exact ⟨t + 1, by omega, by omega, by go_num, HB⟩
                case measure => simp [intOf]; omega
          · go_wp2_with fail
            refine (iPrimeOf_yes _ _ _ HVA.out).mono ?_; rintro e w2 ⟨rfl, hb⟩
            replace HB := Lib.hid (HB.out.trans (hb.mono HB.out.size))
            clear hb
            go_wp2_with fail
            refine (iIsDeep_yes _ _ _ HVP.out).mono ?_; rintro e w2 ⟨rfl, hb⟩
            simp only [Int.toNat_natCast]
            rw [HPP.out]
            replace HB := Lib.hid (HB.out.trans (hb.mono HB.out.size))
            clear hb
            go_wp2
            go_ret
            exact ⟨rfl, HB.out⟩
    · go_wp2_with fail
      refine (iIsDeep_no _ _ _ hva).mono ?_; rintro e w2 ⟨rfl, rfl⟩
      go_wp2_with fail
      refine (sIsDeep_no _ _ _ hva).mono ?_; rintro e w2 ⟨rfl, rfl⟩
      go_wp2_with fail
      refine (implValid_no _ _ _ hva).mono ?_; rintro e w2 ⟨rfl, rfl⟩
      go_wp2_with fail
      refine (sIsDeep_no _ _ _ hva).mono ?_; rintro e w2 ⟨rfl, rfl⟩
      go_wp2_with fail
      go_ret
      exact ⟨rfl, HB.out⟩
end Go.Proofs.Ytmofhhffkppelaa
