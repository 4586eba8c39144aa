/-
  The walks of the laws of spread sets and of even ones.
-/
import Derived.Test.YtpiaplnhiiiniaaDraws2
import Derived.Test.YtpiaplnhiiiniaaLawLow
import Derived.Test.YtpiaplnhiiiniaaEven
import Derived.Test.YtpiaplnhiiiniaaSpread
import Derived.Test.YtpiaplnhiiiniaaEvenLaw
import Derived.Test.YtpiaplnhiiiniaaKind
namespace Go.Proofs.Ytpiaplnhiiiniaa
open Go.RowKit
set_option linter.unusedVariables false

theorem allTo_congr {p q : Nat → Bool} {n s : Nat} : ∀ j, (∀ i, 1 ≤ i → i ≤ j → p (Tic.dset n s i) = q (Tic.dset n s i)) → Tic.allTo p n s j = Tic.allTo q n s j
  | 0, _ => rfl
  | j + 1, h => by
    unfold Tic.allTo
    rw [allTo_congr j (fun i a b => h i a (by omega)), h (j + 1) (by omega) (by omega)]
theorem allL_evn {n s : Nat} (hn0 : 0 < n) (hn : n ≤ 12) : allL Tic.okL n s (Tic.rk s n - 1) = Tic.evn n s := by
  refine allTo_congr _ fun i a b => ?_
  exact (Tic.okL_tn (Tic.dset_lt hn0 s i) hn (Tic.dset_pos (by omega))).1
theorem allL_dbl {n s : Nat} (hn0 : 0 < n) (hn : n ≤ 12) : allL (fun L => L.length == 2) n s (Tic.rk s n - 1) = Tic.dbl n s := by
  refine allTo_congr _ fun i a b => ?_
  exact (Tic.okL_tn (Tic.dset_lt hn0 s i) hn (Tic.dset_pos (by omega))).2

set_option maxRecDepth 20000 in
set_option maxHeartbeats 1000000 in
theorem FnSpreadOf_walk (x : Option Addr) (len cap : Nat) (w : World) (h : Code w x len cap) :
    Calls Try.prog 4 #[.slice x len cap] w fun e w' => e = .returned (.bool true) ∧ Below w.heap.size w w' := by
  by_cases hl : 1048576 < len
  · go_enter Try.func4, Try.ntmps4
    go_wp2_with fail
    go_ret
    exact ⟨rfl, Below.refl _ _⟩
  · go_enter Try.func4, Try.ntmps4
    go_wp2_with fail
    refine (drawSpreadOf _ _ _ _ h).mono ?_; rintro e w1 ⟨n, k, m, rfl, n0, n1, k0, k1, m0, m1, hb⟩
    have HB := Lib.hid hb
    clear hb h hl
    by_cases hv : SpOk n k m
    · have hv0 : SpOk n k 0 := ⟨hv.1, hv.2.1, hv.2.2.1, hv.2.2.2.1, by omega, by have := hv.1; omega⟩
      have HV := Lib.hid hv
      obtain ⟨a1, a2, a3, a4, a5, a6⟩ := hv
      obtain ⟨N, rfl⟩ := Int.eq_ofNat_of_zero_le (show 0 ≤ n by omega)
      obtain ⟨K, rfl⟩ := Int.eq_ofNat_of_zero_le (show 0 ≤ k by omega)
      obtain ⟨M, rfl⟩ := Int.eq_ofNat_of_zero_le a5
      have HQ := Lib.hid (Tic.sp_wt (n := N) (k := K) (m := M) (by omega) (by omega) (by omega) (by omega) (by omega))
      have HE := Lib.hid (Tic.sp_evn (n := N) (k := K) (m := M) (by omega) (by omega) (by omega) (by omega))
      have HP := Lib.hid (Tic.sp_prm (n := N) (k := K) (m := M) (by omega) (by omega) (by omega) (by omega) (by omega))
      have H0 := Lib.hid (Tic.sp_pos (n := N) (k := K) (m := M) (by omega) (by omega) (by omega) (by omega) (by omega))
      have HA := Lib.hid (allL_evn (n := N) (s := Tic.spr N K M K) (by omega) (by omega))
      have hlt : Tic.spr N K M K < 4096 := spr4096 (by omega) (by omega)
      have hva : Tic.Valid (N : Int) (Tic.spr N K M K : Int) := ⟨a1, a2, Int.natCast_nonneg _, Int.ofNat_lt.2 (Tic.spr_lt (by omega) K M K)⟩
      have hvb : Tic.Valid (N : Int) (Tic.spr N K 0 K : Int) := ⟨a1, a2, Int.natCast_nonneg _, Int.ofNat_lt.2 (Tic.spr_lt (by omega) K 0 K)⟩
      go_wp2_with fail
      refine (iSpreadOf_yes _ _ _ _ HV.out).mono ?_; rintro e w2 ⟨rfl, hb⟩
      replace HB := Lib.hid (HB.out.trans (hb.mono HB.out.size))
      clear hb
      go_wp2_with fail
      refine (sSpreadOf_yes _ _ _ _ HV.out).mono ?_; rintro e w2 ⟨rfl, rfl⟩
      simp only [Int.toNat_natCast]
      go_wp2_with fail
      refine (lweight_any _ _ (by omega) (by omega)).mono ?_; rintro e w2 ⟨rfl, rfl⟩
      rw [Int.toNat_natCast, HQ.out]
      go_wp2_with fail
      refine (iIsEven_yes _ _ _ ⟨hva, by have := H0.out; omega⟩).mono ?_; rintro e w2 ⟨rfl, hb⟩
      simp only [Int.toNat_natCast]
      rw [HA.out, HE.out]
      replace HB := Lib.hid (HB.out.trans (hb.mono HB.out.size))
      clear hb
      go_wp2_with fail
      refine (iPrimeOf_yes _ _ _ hva).mono ?_; rintro e w2 ⟨rfl, hb⟩
      simp only [Int.toNat_natCast]
      rw [HP.out]
      replace HB := Lib.hid (HB.out.trans (hb.mono HB.out.size))
      clear hb
      go_wp2_with fail
      refine (iSpreadOf_yes _ _ _ _ hv0).mono ?_; rintro e w2 ⟨rfl, hb⟩
      simp only [Int.toNat_natCast]
      rw [show (0 : Int).toNat = 0 from rfl]
      replace HB := Lib.hid (HB.out.trans (hb.mono HB.out.size))
      clear hb
      go_wp2_with fail
      refine (iPrimeOf_yes _ _ _ hvb).mono ?_; rintro e w2 ⟨rfl, hb⟩
      simp only [Int.toNat_natCast]
      replace HB := Lib.hid (HB.out.trans (hb.mono HB.out.size))
      clear hb
      go_wp2_with fail
      go_ret
      exact ⟨rfl, HB.out⟩
    · go_wp2_with fail
      refine (iSpreadOf_no _ _ _ _ hv).mono ?_; rintro e w2 ⟨rfl, rfl⟩
      go_wp2_with fail
      refine (sSpreadOf_no _ _ _ _ hv).mono ?_; rintro e w2 ⟨rfl, rfl⟩
      go_wp2_with fail
      refine (sSpreadOf_no _ _ _ _ hv).mono ?_; rintro e w2 ⟨rfl, rfl⟩
      go_wp2_with fail
      go_ret
      exact ⟨rfl, HB.out⟩
/-- one of the first k shifts is the set -/
def met (n q s : Nat) : Nat → Bool
  | 0 => false
  | k + 1 => met n q s k || Tic.shf n k q == s
theorem met_iff (n q s : Nat) : ∀ k, met n q s k = true ↔ ∃ t : Nat, t < k ∧ Tic.shf n t q = s
  | 0 => by simp [met]
  | k + 1 => by
    unfold met
    rw [Bool.or_eq_true, met_iff n q s k, beq_iff_eq]
    constructor
    · rintro (⟨t, h1, h2⟩ | h)
      · exact ⟨t, by omega, h2⟩
      · exact ⟨k, by omega, h⟩
    · rintro ⟨t, h1, h2⟩
      by_cases e : t = k
      · subst e; exact .inr h2
      · exact .inl ⟨t, by omega, h2⟩
set_option maxRecDepth 20000 in
set_option maxHeartbeats 1600000 in
theorem FnIsEven_walk (x : Option Addr) (len cap : Nat) (w : World) (h : Code w x len cap) :
    Calls Try.prog 8 #[.slice x len cap] w fun e w' => e = .returned (.bool true) ∧ Below w.heap.size w w' := by
  by_cases hl : 1048576 < len
  · go_enter Try.func8, Try.ntmps8
    go_wp2_with fail
    go_ret
    exact ⟨rfl, Below.refl _ _⟩
  · go_enter Try.func8, Try.ntmps8
    go_wp2_with fail
    refine (drawIsEven _ _ _ _ h).mono ?_; rintro e w1 ⟨n, s, rfl, n0, n1, s0, s1, hb⟩
    have HB := Lib.hid hb
    clear hb h hl
    by_cases hv : EvOk n s
    · have hE := hv
      obtain ⟨hva, hs0⟩ := hv
      have a1 := hva.1
      have a2 := hva.2.1
      have hs := hva.lt_pow
      have hlt := hva.lt
      obtain ⟨N, rfl⟩ := Int.eq_ofNat_of_zero_le (show 0 ≤ n by omega)
      obtain ⟨S, rfl⟩ := Int.eq_ofNat_of_zero_le hva.2.2.1
      simp only [Int.toNat_natCast] at hs
      have hS0 : S ≠ 0 := by omega
      have HW := Lib.hid (Tic.rk_wt hs (by omega))
      have hk1 := Tic.rk_pos_of hs hS0
      have hk2 := Tic.rk_le S N
      rw [HW.out] at hk1 hk2
      have hsp : SpOk (N : Int) (Tic.wt 12 S : Int) 0 := ⟨a1, a2, by omega, by omega, by omega, by omega⟩
      have HA := Lib.hid (allL_evn (n := N) (s := S) (by omega) (by omega))
      have hvq : Tic.Valid (N : Int) (Tic.spr N (Tic.wt 12 S) 0 (Tic.wt 12 S) : Int) := ⟨a1, a2, Int.natCast_nonneg _, Int.ofNat_lt.2 (Tic.spr_lt (by omega) _ 0 _)⟩
      have HM : Hid (met N (Tic.spr N (Tic.wt 12 S) 0 (Tic.wt 12 S)) S N = Tic.evn N S) := Lib.hid (by
        rw [Bool.eq_iff_iff, met_iff, Tic.ev_iff (by omega) (by omega) hs hS0, HW.out]
        exact Iff.rfl)
      have HO := Lib.hid (Tic.ev_oth (n := N) (s := S) (by omega) (by omega) hs hS0)
      have HOA := Lib.hid (allL_evn (n := N) (s := Tic.oth N S) (by omega) (by omega))
      have hvo : Tic.Valid (N : Int) (Tic.oth N S : Int) := ⟨a1, a2, Int.natCast_nonneg _, Int.ofNat_lt.2 Tic.oth_lt⟩
      have HOI : Hid (((2 ^ N : Nat) : Int) - 1 - (S : Int) = (Tic.oth N S : Int)) := Lib.hid (by unfold Tic.oth; omega)
      clear hs
      go_wp2_with fail
      refine (iIsEven_yes _ _ _ hE).mono ?_; rintro e w2 ⟨rfl, hb⟩
      simp only [Int.toNat_natCast]
      rw [HA.out]
      replace HB := Lib.hid (HB.out.trans (hb.mono HB.out.size))
      clear hb
      go_wp2_with fail
      refine (sIsEven_yes _ _ _ hE).mono ?_; rintro e w2 ⟨rfl, hb⟩
      simp only [Int.toNat_natCast]
      rw [HA.out]
      replace HB := Lib.hid (HB.out.trans (hb.mono HB.out.size))
      clear hb
      have HSQ : Hid (Tic.sp0 N (Tic.wt 12 S) = Tic.spr N (Tic.wt 12 S) 0 (Tic.wt 12 S)) := rfl
      have hmN : ∀ b, Tic.evn N S = b → Hid (met N (Tic.spr N (Tic.wt 12 S) 0 (Tic.wt 12 S)) S N = b) := fun b hb => Lib.hid (HM.out.trans hb)
      have hoN : ∀ b, Tic.evn N S = b → Hid (Tic.oth N S ≠ 0 → Tic.evn N (Tic.oth N S) = b) := fun b hb => Lib.hid (fun h => (HO.out h).trans hb)
      clear HM HO
      generalize hev : Tic.evn N S = b at hmN hoN ⊢
      have HM := hmN b rfl
      have HO := hoN b rfl
      clear hmN hoN hev
      cases b
      all_goals
        go_wp2_with fail
        refine (implValid_yes _ _ _ hva).mono ?_; rintro e w2 ⟨rfl, rfl⟩
        go_wp2_with fail
        refine (lweight_any _ _ (by omega) (by omega)).mono ?_; rintro e w2 ⟨rfl, rfl⟩
        rw [Int.toNat_natCast]
        go_wp2_with fail
        refine (iSpreadOf_yes _ _ _ _ hsp).mono ?_; rintro e w2 ⟨rfl, hb⟩
        simp only [Int.toNat_natCast]
        rw [show (0 : Int).toNat = 0 from rfl]
        replace HB := Lib.hid (HB.out.trans (hb.mono HB.out.size))
        clear hb
        generalize Tic.spr N (Tic.wt 12 S) 0 (Tic.wt 12 S) = q at HM HSQ hvq ⊢
        go_wp2
        go_loopw [7, 8] (fun t7 t8 wr => ∃ t : Nat, t ≤ N ∧ t8 = .int .i64 t ∧ t7 = .bool (met N q S t) ∧ Hid (Below w.heap.size w wr)) (fun _ t8 _ => N - (intOf t8).toNat)
        case atStart => exact ⟨0, Nat.zero_le _, rfl, rfl, HB⟩
        case round =>
          obtain ⟨t, ht, rfl, rfl, HB⟩ := hrel
          by_cases hltt : t < N
          · have HN : Hid (met N q S (t + 1) = (met N q S t || Tic.shf N t q == S)) := rfl
            cases hm : met N q S t with
            | true =>
              rw [hm] at HN
              clear hm
              go_wp2
              go_roundw
              case rel => exact ⟨t + 1, by omega, by go_num, by rw [HN.out]; rfl, HB⟩
              case measure => simp [intOf]; omega
            | false =>
              rw [hm] at HN
              clear hm
              go_wp2_with fail
              refine (iShiftSet_yes _ _ _ _ hvq ⟨by omega, by omega⟩).mono ?_; rintro e w2 ⟨rfl, hb⟩
              simp only [Int.toNat_natCast]
              replace HB := Lib.hid (HB.out.trans (hb.mono HB.out.size))
              clear hb
              generalize Tic.shf N t q = r at HN ⊢
              go_wp2
              go_roundw
              case rel => exact ⟨t + 1, by omega, by go_num, by rw [HN.out, Bool.false_or]; congr 1; rw [Bool.eq_iff_iff, beq_iff_eq, beq_iff_eq]; omega, HB⟩
              case measure => simp [intOf]; omega
          · have : t = N := by omega
            subst this
            rw [HM.out]
            go_wp2_with fail
            refine (iOthersOf_yes _ _ _ hva).mono ?_; rintro e w2 ⟨rfl, hb⟩
            simp only [Int.toNat_natCast]
            rw [HOI.out]
            replace HB := Lib.hid (HB.out.trans (hb.mono HB.out.size))
            clear hb
            by_cases ho : Tic.oth t S = 0
            · rw [ho]
              go_wp2
              go_ret
              exact ⟨rfl, HB.out⟩
            · have ho2 : ¬ (Tic.oth t S : Int) = 0 := by omega
              have HO2 := Lib.hid (HO.out ho)
              clear HO
              generalize Tic.oth t S = o at ho ho2 HOA hvo HO2 ⊢
              go_wp2_with fail
              refine (iIsEven_yes _ _ _ ⟨hvo, ho2⟩).mono ?_; rintro e w2 ⟨rfl, hb⟩
              simp only [Int.toNat_natCast]
              rw [HOA.out, HO2.out]
              replace HB := Lib.hid (HB.out.trans (hb.mono HB.out.size))
              clear hb
              go_wp2
              go_ret
              exact ⟨rfl, HB.out⟩
    · go_wp2_with fail
      refine (iIsEven_no _ _ _ hv).mono ?_; rintro e w2 ⟨rfl, rfl⟩
      go_wp2_with fail
      refine (sIsEven_no _ _ _ hv).mono ?_; rintro e w2 ⟨rfl, rfl⟩
      by_cases hva : Tic.Valid n s
      · have hs0 : s = 0 := Decidable.byContradiction fun e => hv ⟨hva, e⟩
        subst hs0
        go_wp2_with fail
        refine (implValid_yes _ _ _ hva).mono ?_; rintro e w2 ⟨rfl, rfl⟩
        go_wp2_with fail
        refine (sIsEven_no _ _ _ hv).mono ?_; rintro e w2 ⟨rfl, rfl⟩
        go_wp2_with fail
        go_ret
        exact ⟨rfl, HB.out⟩
      · go_wp2_with fail
        refine (implValid_no _ _ _ hva).mono ?_; rintro e w2 ⟨rfl, rfl⟩
        go_wp2_with fail
        refine (sIsEven_no _ _ _ hv).mono ?_; rintro e w2 ⟨rfl, rfl⟩
        go_wp2_with fail
        go_ret
        exact ⟨rfl, HB.out⟩
end Go.Proofs.Ytpiaplnhiiiniaa
