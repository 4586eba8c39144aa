/-
  The walks of the laws of sizes and of deep sets.
-/
import Derived.Test.YtpiaplnhiiiniaaLaws7
import Derived.Test.YtpiaplnhiiiniaaDeep
namespace Go.Proofs.Ytpiaplnhiiiniaa
open Go.RowKit
set_option linter.unusedVariables false

set_option maxRecDepth 20000 in
set_option maxHeartbeats 1600000 in
theorem FnSizesOf_walk (x : Option Addr) (len cap : Nat) (w : World) (h : Code w x len cap) :
    Calls Try.prog 6 #[.slice x len cap] w fun e w' => e = .returned (.bool true) ∧ Below w.heap.size w w' := by
  by_cases hl : 1048576 < len
  · go_enter Try.func6, Try.ntmps6
    go_wp2_with fail
    go_ret
    exact ⟨rfl, Below.refl _ _⟩
  · go_enter Try.func6, Try.ntmps6
    go_wp2_with fail
    refine (drawSizesOf _ _ _ _ h).mono ?_; rintro e w1 ⟨n, s, st, rfl, n0, n1, s0, s1, t0, t1, hb⟩
    have HB := Lib.hid hb
    clear hb h hl
    by_cases hc : SzOk n s st
    · have HC := Lib.hid hc
      obtain ⟨hva, hst1, hst2⟩ := hc
      have HVA := Lib.hid hva
      have a1 := hva.1
      have a2 := hva.2.1
      have hs := hva.lt_pow
      have hlt := hva.lt
      obtain ⟨N, rfl⟩ := Int.eq_ofNat_of_zero_le (show 0 ≤ n by omega)
      obtain ⟨S, rfl⟩ := Int.eq_ofNat_of_zero_le hva.2.2.1
      obtain ⟨T, rfl⟩ := Int.eq_ofNat_of_zero_le (show 0 ≤ st by omega)
      simp only [Int.toNat_natCast] at hs hst2
      have HW := Lib.hid (Tic.rk_wt hs (by omega))
      have hwt := Tic.wt_le 12 S
      have hT1 : 1 ≤ T := by omega
      have hT2 : T < Tic.rk S N := by omega
      have HSH := Lib.hid (Tic.dset_shf (n := N) (s := S) (st := T) (by omega) (by omega) hs hT2)
      have hvs := Tic.valid_shf hva 1
      simp only [Int.toNat_natCast] at hvs
      have HSO : Hid (SzOk (N : Int) (Tic.shf N 1 S : Int) (T : Int)) := Lib.hid ⟨hvs, hst1, by rw [Int.toNat_natCast, Int.toNat_natCast, Tic.rk_shf_n (by omega) (by omega) hs]; exact hst2⟩
      have HOO : Hid (SzOk (N : Int) (S : Int) ((Tic.wt 12 S : Int) - (T : Int))) := Lib.hid ⟨hva, by rw [HW.out] at hT2; omega, by rw [Int.toNat_natCast, Int.toNat_natCast, HW.out]; rw [HW.out] at hT2; omega⟩
      have hwn : ((Tic.wt 12 S : Int) - (T : Int)).toNat = Tic.rk S N - T := by rw [HW.out]; omega
      have HWN := Lib.hid hwn
      have HD0 := Lib.hid (Tic.dset_zero (n := N) hT1 hT2)
      have HE0 := Lib.hid (Tic.dset_zero (n := N) (s := S) (st := Tic.rk S N - T) (by omega) (by omega))
      have HDE := Lib.hid (fun d (h1 : 0 < d) (h2 : d < N) => Tic.dset_other (n := N) (s := S) hT1 hT2 h1 h2)
      have HMI := Lib.hid (rk_mirror HD0.out HE0.out HDE.out)
      have HN0 := Lib.hid (dset_some (N := N) (S := S) (i := T) (by omega) (by omega))
      have HLEN : Hid ((tonesTo (Tic.dset N S (Tic.rk S N - T)) N).length = (tonesTo (Tic.dset N S T) N).length) := Lib.hid (by
        rw [tonesTo_len, tonesTo_len]
        have := HMI.out N (by omega) (Nat.le_refl _)
        rw [show N - N + 1 = 0 + 1 by omega, Tic.rk_no HD0.out] at this
        simpa [Tic.rk, Tic.tn] using this)
      have HBK : Hid (∀ i, i < (tonesTo (Tic.dset N S T) N).length → (tonesTo (Tic.dset N S (Tic.rk S N - T)) N).getD ((tonesTo (Tic.dset N S T) N).length - 1 - i) 0 = (N : Int) - (tonesTo (Tic.dset N S T) N).getD i 0) := Lib.hid (fun i hi => by
        obtain ⟨d, h1, h2, h3, h4⟩ := tonesTo_get _ _ _ hi
        have hd0 : d ≠ 0 := by
          intro e
          rw [e, HD0.out] at h2; cases h2
        have hb2 := HDE.out (N - d) (by omega) (by omega)
        rw [show N - (N - d) = d by omega, h2] at hb2
        obtain ⟨k1, k2⟩ := tonesTo_put (Tic.dset N S (Tic.rk S N - T)) N (N - d) (by omega) hb2
        have hm := HMI.out (N - d) (by omega) (by omega)
        rw [show N - (N - d) + 1 = d + 1 by omega, Tic.rk_yes h2, h3] at hm
        rw [tonesTo_len]
        rw [show Tic.rk (Tic.dset N S T) N - 1 - i = Tic.rk (Tic.dset N S (Tic.rk S N - T)) (N - d) by omega, k2, h4]
        omega)
      have HAS := Lib.hid (tonesTo_asc (Tic.dset N S T) N)
      have HBD : Hid (∀ i, i < (tonesTo (Tic.dset N S T) N).length → 0 ≤ (tonesTo (Tic.dset N S T) N).getD i 0 ∧ (tonesTo (Tic.dset N S T) N).getD i 0 ≤ 12) := Lib.hid (fun i hi => by
        obtain ⟨g, h1, h2, h3, h4⟩ := tonesTo_get _ _ _ hi
        rw [h4]; omega)
      have HP : Hid (0 < (tonesTo (Tic.dset N S T) N).length) := Lib.hid (by rw [tonesTo_len]; exact HN0.out)
      clear hs hvs hwn hT1 hT2 HMI HDE HE0 HD0 HN0
      go_wp2_with fail
      refine (iSizesOf_yes _ _ _ _ HC.out).mono ?_; rintro e w2 ⟨v, rfl, hr, hb⟩
      simp only [Int.toNat_natCast] at hr
      have R0 := Lib.hid hr
      replace HB := Lib.hid (HB.out.trans (hb.mono HB.out.size))
      clear hb hr
      go_wp2_with fail
      refine (sSizesOf_yes _ _ _ _ HC.out).mono ?_; rintro e w3 ⟨v1, rfl, hr, hb⟩
      simp only [Int.toNat_natCast] at hr
      have R1 := Lib.hid hr
      replace R0 := Lib.hid (R0.out.kept hb)
      replace HB := Lib.hid (HB.out.trans (hb.mono HB.out.size))
      clear hb hr
      go_wp2_with fail
      refine (equalInts_yes _ _ _ _ _ _ R0.out R1.out).mono ?_; rintro e w4 ⟨rfl, hb⟩
      replace R0 := Lib.hid (R0.out.kept hb)
      replace HB := Lib.hid (HB.out.trans (hb.mono HB.out.size))
      clear hb R1
      generalize hL : tonesTo (Tic.dset N S T) N = L at R0 HLEN HBK HAS HBD HP
      have HL := Lib.hid hL
      clear hL
      have hl := R0.out.2
      obtain ⟨a, k, c, rfl⟩ := R0.out.slice
      have hk : k = L.length := by
        rcases R0.out.cases with ⟨e, e2⟩ | ⟨g, cap, e, _⟩
        · injection e with _ e _; rw [e, e2]; rfl
        · injection e
      subst hk
      have hp : ¬ L.length = 0 := by have := HP.out; omega
      have hp2 : ((L.length : Int) == 0) = false := beq_eq_false_iff_ne.2 (by omega)
      go_wp2_with fail
      refine (lweight_any _ _ (by omega) (by omega)).mono ?_; rintro e w5 ⟨rfl, rfl⟩
      rw [Int.toNat_natCast]
      have hs5 := IntWalk.wrap64_in ((Tic.wt 12 S : Int) - (T : Int)) (by omega)
      go_wp2_with fail
      refine (iSizesOf_yes _ _ _ _ HOO.out).mono ?_; rintro e w5 ⟨v5, rfl, hr, hb⟩
      simp only [Int.toNat_natCast] at hr
      rw [HWN.out] at hr
      have R1 := Lib.hid hr
      replace R0 := Lib.hid (R0.out.kept hb)
      replace HB := Lib.hid (HB.out.trans (hb.mono HB.out.size))
      clear hb hr hs5
      generalize tonesTo (Tic.dset N S (Tic.rk S N - T)) N = M at R1 HLEN HBK
      obtain ⟨a', k', c', rfl⟩ := R1.out.slice
      have hk : k' = L.length := by
        rcases R1.out.cases with ⟨e, e2⟩ | ⟨g, cap, e, _⟩
        · injection e with _ e _
          rw [e, ← HLEN.out, e2]; rfl
        · injection e with _ e _
          rw [e]; exact HLEN.out
      subst hk
      go_wp2
      go_loopw [8] (fun t8 wr => ∃ i : Nat, i ≤ L.length ∧ t8 = .int .i64 i ∧ ∃ q, Hid (wr = w5.drewN q)) (fun t8 _ => L.length - (intOf t8).toNat)
      case atStart => exact ⟨0, Nat.zero_le _, rfl, 0, rfl⟩
      case round =>
        obtain ⟨i, hi, rfl, q, HQ⟩ := hrel
        by_cases hlti : i < L.length
        · have hbk := HBK.out i hlti
          have hbd := HBD.out i hlti
          rcases R0.out.cases with ⟨e, e2⟩ | ⟨g, cap, e, _, _, hcel, _⟩
          · rw [e2] at hlti; simp at hlti
          · injection e with e0 e1 e2
            subst e0
            subst e2
            rcases R1.out.cases with ⟨e, e2⟩ | ⟨g', cap', e, _, _, hcel', _⟩
            · injection e with _ e _; omega
            · injection e with e0 e3 e2
              subst e0
              subst e2
              have hci : wr.cell? ⟨g, i, none⟩ = some (.int .i64 (L.getD i 0)) := by rw [HQ.out]; exact hcel i hlti
              have hci2 : wr.cell? ⟨g', L.length - 1 - i, none⟩ = some (.int .i64 (M.getD (L.length - 1 - i) 0)) := by rw [HQ.out]; exact hcel' _ (by rw [HLEN.out]; omega)
              have hi2 : (i : Int) < (L.length : Int) := by omega
              have f1 : ((L.length : Int) - 1 - (i : Int)) = ((L.length - 1 - i : Nat) : Int) := by omega
              have f2 : ((L.length - 1 - i : Nat) : Int) < (L.length : Int) := by omega
              clear hcel hcel' e1 e3
              rw [hbk] at hci2
              clear hbk
              generalize L.getD i 0 = y at hci hci2 hbd
              have hs1 := IntWalk.i64_in ((L.length : Int) - 1) (by omega)
              have hs2 := IntWalk.i64_in ((L.length - 1 - i : Nat) : Int) (by omega)
              have hs3 := IntWalk.i64_in ((N : Int) - y) (by omega)
              go_wp2_with fail
              go_quiet (fail)
              clear hs1 hs2 hs3 f1 f2
              go_wp2
              go_roundw
              case rel => exact ⟨i + 1, by omega, by go_num, q + nq, Lib.hid (by rw [HQ.out, World.drewN_drewN])⟩
              case measure => simp [intOf]; omega
        · have HBW : Hid (Below w.heap.size w wr) := Lib.hid (by rw [HQ.out]; exact below_drewN HB.out _)
          have R0' : Hid (Row wr w1.heap.size (.slice a L.length c) L) := Lib.hid (by rw [HQ.out]; exact R0.out)
          clear HB R0 R1
          have HB := HBW
          have R0 := R0'
          clear HBW R0'
          go_wp2_with fail
          refine (ascends_yes _ _ L _ R0.out HAS.out).mono ?_; rintro e w6 ⟨rfl, hb⟩
          replace R0 := Lib.hid (R0.out.kept hb)
          replace HB := Lib.hid (HB.out.trans (hb.mono HB.out.size))
          clear hb
          go_wp2_with fail
          refine (iShiftSet_yes _ _ _ _ HVA.out ⟨by omega, by omega⟩).mono ?_; rintro e w7 ⟨rfl, hb⟩
          simp only [Int.toNat_natCast]
          replace R0 := Lib.hid (R0.out.kept hb)
          replace HB := Lib.hid (HB.out.trans (hb.mono HB.out.size))
          clear hb
          go_wp2_with fail
          refine (iSizesOf_yes _ _ _ _ HSO.out).mono ?_; rintro e w8 ⟨v8, rfl, hr, hb⟩
          simp only [Int.toNat_natCast] at hr
          rw [HSH.out, HL.out] at hr
          have R1 := Lib.hid hr
          replace R0 := Lib.hid (R0.out.kept hb)
          replace HB := Lib.hid (HB.out.trans (hb.mono HB.out.size))
          clear hb hr
          go_wp2_with fail
          refine (equalInts_yes _ _ _ _ _ _ R1.out R0.out).mono ?_; rintro e w9 ⟨rfl, hb⟩
          replace HB := Lib.hid (HB.out.trans (hb.mono HB.out.size))
          clear hb R1
          go_wp2_with fail
          go_ret
          exact ⟨rfl, HB.out⟩
    · have HC := Lib.hid hc
      go_wp2_with fail
      refine (iSizesOf_no _ _ _ _ hc).mono ?_; rintro e w2 ⟨rfl, hb⟩
      replace HB := Lib.hid (HB.out.trans (hb.mono HB.out.size))
      clear hb
      go_wp2_with fail
      refine (sSizesOf_no _ _ _ _ HC.out).mono ?_; rintro e w3 ⟨rfl, rfl⟩
      go_wp2_with fail
      refine (equalInts_yes _ _ 0 0 [] _ (Row.nil _ _) (Row.nil _ _)).mono ?_; rintro e w4 ⟨rfl, hb⟩
      replace HB := Lib.hid (HB.out.trans (hb.mono HB.out.size))
      clear hb
      go_wp2_with fail
      refine (sSizesOf_no _ _ _ _ HC.out).mono ?_; rintro e w3 ⟨rfl, rfl⟩
      go_wp2_with fail
      refine (equalInts_yes _ _ 0 0 [] _ (Row.nil _ _) (Row.nil _ _)).mono ?_; rintro e w4 ⟨rfl, hb⟩
      replace HB := Lib.hid (HB.out.trans (hb.mono HB.out.size))
      clear hb
      go_wp2_with fail
      go_ret
      exact ⟨rfl, HB.out⟩
theorem deepTo_diff {L : List Int} : ∀ k, k ≤ L.length → deepTo L k = true → ∀ i j, i < j → j < k → L.getD i 0 ≠ L.getD j 0
  | 0, _, _ => fun i j _ h => by omega
  | k + 1, hk, h => by
    unfold deepTo at h
    rw [Bool.and_eq_true] at h
    intro i j hij hj
    by_cases e : j = k
    · subst e
      intro he
      have := (take_mem (L := L) (k := j) (x := L.getD j 0) (by omega)).2 ⟨i, hij, he⟩
      rw [this] at h
      cases h.2
    · exact deepTo_diff k (by omega) h.1 i j hij (by omega)
theorem gapsOf_at {n s t : Nat} (h : t < n / 2) : (Tic.gapsOf n s).getD t 0 = (Tic.gAll n s t : Int) := Tic.cts_getD _ h
set_option maxRecDepth 20000 in
set_option maxHeartbeats 1600000 in
theorem FnIsDeep_walk (x : Option Addr) (len cap : Nat) (w : World) (h : Code w x len cap) :
    Calls Try.prog 14 #[.slice x len cap] w fun e w' => e = .returned (.bool true) ∧ Below w.heap.size w w' := by
  by_cases hl : 1048576 < len
  · go_enter Try.func14, Try.ntmps14
    go_wp2_with fail
    go_ret
    exact ⟨rfl, Below.refl _ _⟩
  · go_enter Try.func14, Try.ntmps14
    go_wp2_with fail
    refine (drawIsDeep _ _ _ _ h).mono ?_; rintro e w1 ⟨n, s, rfl, n0, n1, s0, s1, hb⟩
    have HB := Lib.hid hb
    clear hb h hl
    by_cases hva : Tic.Valid n s
    · have HVA := Lib.hid hva
      have a1 := hva.1
      have a2 := hva.2.1
      have hs := hva.lt_pow
      obtain ⟨N, rfl⟩ := Int.eq_ofNat_of_zero_le (show 0 ≤ n by omega)
      obtain ⟨S, rfl⟩ := Int.eq_ofNat_of_zero_le hva.2.2.1
      simp only [Int.toNat_natCast] at hs
      have HVP := Lib.hid (Tic.valid_prm hva)
      have HPG := Lib.hid (Tic.prm_gaps (n := N) (s := S) (by omega) (by omega) hs)
      have HCM : Hid (deepTo (Tic.gapsOf N S) (Tic.gapsOf N S).length = true → ∀ t u : Nat, 1 ≤ u → u < t → 2 * t < N → (Tic.wt 12 (S &&& Tic.shf N (t : Int) S) : Int) ≠ (Tic.wt 12 (S &&& Tic.shf N (u : Int) S) : Int)) := Lib.hid (fun hd t u hu hut ht => by
        rw [Tic.common_at (t := (t : Int)) (T := t) hs (by omega) (Int.emod_eq_of_lt (by omega) (by omega)) (by omega) (by omega), Tic.common_at (t := (u : Int)) (T := u) hs (by omega) (Int.emod_eq_of_lt (by omega) (by omega)) (by omega) (by omega)]
        rw [show min t (N - t) = t by omega, show min u (N - u) = u by omega, if_neg (by omega), if_neg (by omega), Nat.one_mul, Nat.one_mul]
        have hlen : (Tic.gapsOf N S).length = N / 2 := Tic.cts_length _ _
        have := deepTo_diff _ (Nat.le_refl _) hd (u - 1) (t - 1) (by omega) (by rw [hlen]; omega)
        rw [gapsOf_at (by omega), gapsOf_at (by omega)] at this
        omega)
      clear hs
      go_wp2_with fail
      refine (iIsDeep_yes _ _ _ HVA.out).mono ?_; rintro e w2 ⟨rfl, hb⟩
      simp only [Int.toNat_natCast]
      replace HB := Lib.hid (HB.out.trans (hb.mono HB.out.size))
      clear hb
      go_wp2_with fail
      refine (sIsDeep_yes _ _ _ HVA.out).mono ?_; rintro e w2 ⟨rfl, hb⟩
      simp only [Int.toNat_natCast]
      replace HB := Lib.hid (HB.out.trans (hb.mono HB.out.size))
      clear hb
      have HPP : Hid (deepTo (Tic.gapsOf N (Tic.prm N S)) (Tic.gapsOf N (Tic.prm N S)).length = deepTo (Tic.gapsOf N S) (Tic.gapsOf N S).length) := Lib.hid (by rw [HPG.out])
      generalize deepTo (Tic.gapsOf N S) (Tic.gapsOf N S).length = b at HCM HPP ⊢
      cases b with
      | false =>
        go_wp2_with fail
        refine (implValid_yes _ _ _ HVA.out).mono ?_; rintro e w2 ⟨rfl, rfl⟩
        go_wp2
        refine wp_loop_rounds 1 ?_
        rw [rounds_succ]
        go_wp2_with fail
        refine (iPrimeOf_yes _ _ _ HVA.out).mono ?_; rintro e w2 ⟨rfl, hb⟩
        replace HB := Lib.hid (HB.out.trans (hb.mono HB.out.size))
        clear hb
        go_wp2_with fail
        refine (iIsDeep_yes _ _ _ HVP.out).mono ?_; rintro e w2 ⟨rfl, hb⟩
        simp only [Int.toNat_natCast]
        rw [HPP.out]
        replace HB := Lib.hid (HB.out.trans (hb.mono HB.out.size))
        clear hb
        go_wp2
        go_ret
        exact ⟨rfl, HB.out⟩
      | true =>
        have HNE := Lib.hid (HCM.out rfl)
        clear HCM
        go_wp2_with fail
        refine (implValid_yes _ _ _ HVA.out).mono ?_; rintro e w2 ⟨rfl, rfl⟩
        go_wp2
        go_loopw [6, 7] (fun t6 _ wr => ∃ t : Nat, 1 ≤ t ∧ t ≤ 7 ∧ t6 = .int .i64 t ∧ Hid (Below w.heap.size w wr)) (fun t6 _ _ => 13 - (intOf t6).toNat)
        case atStart => exact ⟨1, by omega, by omega, rfl, HB⟩
        case round =>
          obtain ⟨t, ht1, ht2, rfl, HB⟩ := hrel
          have hs1 := IntWalk.i64_in (2 * (t : Int)) (by omega)
          by_cases hlt : 2 * t < N
          · go_wp2
            go_loopw [7] (fun t7 wi => ∃ u : Nat, 1 ≤ u ∧ u ≤ t ∧ t7 = .int .i64 u ∧ Hid (Below w.heap.size w wi)) (fun t7 _ => 13 - (intOf t7).toNat)
            case atStart => exact ⟨1, by omega, by omega, rfl, HB⟩
            case round =>
              obtain ⟨u, hu1, hu2, rfl, HB⟩ := hrel
              by_cases hlu : u < t
              · have hne := HNE.out t u hu1 hlu hlt
                go_wp2_with fail
                refine (iCommonOf_yes _ _ _ _ HVA.out ⟨by omega, by omega⟩).mono ?_; rintro e w2 ⟨rfl, hb⟩
                simp only [Int.toNat_natCast]
                replace HB := Lib.hid (HB.out.trans (hb.mono HB.out.size))
                clear hb
                go_wp2_with fail
                refine (iCommonOf_yes _ _ _ _ HVA.out ⟨by omega, by omega⟩).mono ?_; rintro e w2 ⟨rfl, hb⟩
                simp only [Int.toNat_natCast]
                replace HB := Lib.hid (HB.out.trans (hb.mono HB.out.size))
                clear hb
                generalize Tic.wt 12 (S &&& Tic.shf N (t : Int) S) = p at hne ⊢
                generalize Tic.wt 12 (S &&& Tic.shf N (u : Int) S) = q at hne ⊢
                go_wp2
                go_roundw
                case rel => exact ⟨u + 1, by omega, by omega, by go_num, HB⟩
                case measure => simp [intOf]; omega
              · go_wp2
                go_roundw
                case rel => exact ⟨t + 1, by omega, by omega, by go_num, HB⟩
                case measure => simp [intOf]; omega
          · go_wp2_with fail
            refine (iPrimeOf_yes _ _ _ HVA.out).mono ?_; rintro e w2 ⟨rfl, hb⟩
            replace HB := Lib.hid (HB.out.trans (hb.mono HB.out.size))
            clear hb
            go_wp2_with fail
            refine (iIsDeep_yes _ _ _ HVP.out).mono ?_; rintro e w2 ⟨rfl, hb⟩
            simp only [Int.toNat_natCast]
            rw [HPP.out]
            replace HB := Lib.hid (HB.out.trans (hb.mono HB.out.size))
            clear hb
            go_wp2
            go_ret
            exact ⟨rfl, HB.out⟩
    · go_wp2_with fail
      refine (iIsDeep_no _ _ _ hva).mono ?_; rintro e w2 ⟨rfl, rfl⟩
      go_wp2_with fail
      refine (sIsDeep_no _ _ _ hva).mono ?_; rintro e w2 ⟨rfl, rfl⟩
      go_wp2_with fail
      refine (implValid_no _ _ _ hva).mono ?_; rintro e w2 ⟨rfl, rfl⟩
      go_wp2_with fail
      refine (sIsDeep_no _ _ _ hva).mono ?_; rintro e w2 ⟨rfl, rfl⟩
      go_wp2_with fail
      go_ret
      exact ⟨rfl, HB.out⟩
end Go.Proofs.Ytpiaplnhiiiniaa
