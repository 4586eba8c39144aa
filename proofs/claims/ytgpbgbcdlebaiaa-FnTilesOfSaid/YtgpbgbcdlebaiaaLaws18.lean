/-
  The walk of the law of factors.
-/
import Derived.Test.YtgpbgbcdlebaiaaLawLow
import Derived.Test.YtgpbgbcdlebaiaaAscends
import Derived.Test.YtgpbgbcdlebaiaaFactorsOf
import Derived.Test.YtgpbgbcdlebaiaaFactInv
import Derived.Test.YtgpbgbcdlebaiaaFactTab
namespace Go.Proofs.Ytgpbgbcdlebaiaa
open Go.RowKit
set_option linter.unusedVariables false

set_option maxHeartbeats 1000000 in
theorem lprimeOf_any (p : Int) (w : World) (h1 : 2 ≤ p) (h2 : p ≤ 12) :
    Calls Try.prog 67 #[.int .i64 p] w fun e w' => e = .returned (.int .i64 (Tic.lp p.toNat : Int)) ∧ w = w' := by
  rcases (show p = 2 ∨ p = 3 ∨ p = 4 ∨ p = 5 ∨ p = 6 ∨ p = 7 ∨ p = 8 ∨ p = 9 ∨ p = 10 ∨ p = 11 ∨ p = 12 by omega) with rfl | rfl | rfl | rfl | rfl | rfl | rfl | rfl | rfl | rfl | rfl
  all_goals
    go_enter Try.func67, Try.ntmps67
    go_wp2
    refine wp_loop_rounds 12 ?_
    repeat (rw [rounds_succ]; go_wp2)
    go_ret
    exact ⟨rfl, rfl⟩
theorem prodF_pos : ∀ (L : List Int), (∀ y, y ∈ L → ∃ j : Nat, y = j ∧ 2 ≤ j ∧ j ≤ 12) → 1 ≤ Tic.prodF L
  | [], _ => Nat.le_refl _
  | y :: L, h => by
    obtain ⟨j, rfl, h1, h2⟩ := h y (by simp)
    have h3 := prodF_pos L (fun z hz => h z (by simp [hz]))
    have h4 := (Tic.lp_spec h1 h2).1
    unfold Tic.prodF
    rw [Int.toNat_natCast]
    exact Nat.mul_pos (by omega) h3
theorem prodF_take (L : List Int) (i : Nat) (h : ∀ y, y ∈ L → ∃ j : Nat, y = j ∧ 2 ≤ j ∧ j ≤ 12) : Tic.prodF (L.take i) ≤ Tic.prodF L := by
  have h1 := Tic.prodF_append (L.take i) (L.drop i)
  rw [List.take_append_drop] at h1
  have h2 := prodF_pos (L.drop i) (fun y hy => h y (List.mem_of_mem_drop hy))
  rw [h1]
  exact Nat.le_mul_of_pos_right _ h2
theorem prodF_next {L : List Int} {i j : Nat} (h : i < L.length) (hy : L.getD i 0 = (j : Int)) : Tic.prodF (L.take (i + 1)) = Tic.prodF (L.take i) * Tic.lp j := by
  rw [List.take_succ_eq_append_getElem h, Tic.prodF_append]
  have : L[i] = (j : Int) := by rw [← hy]; simp [List.getD_eq_getElem?_getD, List.getElem?_eq_getElem h]
  rw [this]; simp [Tic.prodF]
theorem getD_mem {L : List Int} {i : Nat} (h : i < L.length) : L.getD i 0 ∈ L := by
  have : L.getD i 0 = L[i] := by simp [List.getD_eq_getElem?_getD, List.getElem?_eq_getElem h]
  rw [this]; exact List.getElem_mem h
set_option maxRecDepth 20000 in
theorem lproduct_any (L : List Int) (v : Value) (B : Nat) (w : World) (h : Row w B v L) (hb : ∀ y, y ∈ L → ∃ j : Nat, y = j ∧ 2 ≤ j ∧ j ≤ 12) (hp : Tic.prodF L ≤ 12) :
    Calls Try.prog 35 #[v] w fun e w' => e = .returned (.int .i64 (Tic.prodF L : Int)) ∧ w = w' := by
  obtain ⟨a, c, rfl, hvw⟩ := h.view
  have HVW := Lib.hid hvw
  have HB := Lib.hid hb
  have hl := h.2
  have HTK := Lib.hid (fun i => Nat.le_trans (prodF_take L i hb) hp)
  clear hvw hb h
  go_enter Try.func35, Try.ntmps35
  go_wp2
  go_loop [3, 4] (fun t3 t4 => ∃ i : Nat, i ≤ L.length ∧ t4 = .int .i64 i ∧ t3 = .int .i64 (Tic.prodF (L.take i) : Int)) (fun _ t4 => L.length - (intOf t4).toNat)
  case atStart => exact ⟨0, Nat.zero_le _, rfl, rfl⟩
  case round =>
    obtain ⟨i, hi, rfl, rfl⟩ := hrel
    by_cases hli : i < L.length
    · obtain ⟨g, rfl, _, _, hcel⟩ := HVW.out (by omega)
      have hcl := hcel i hli
      obtain ⟨j, hj, j1, j2⟩ := HB.out _ (getD_mem hli)
      rw [hj] at hcl
      have hnx := prodF_next hli hj
      have h1 := HTK.out i
      have h2 := HTK.out (i + 1)
      obtain ⟨q, hq⟩ : ∃ q, q = Tic.prodF (L.take (i + 1)) := ⟨_, rfl⟩
      rw [← hq] at hnx h2
      have hmul : ((Tic.prodF (L.take i) : Nat) : Int) * ((Tic.lp j : Nat) : Int) = (q : Int) := by rw [hnx, Int.natCast_mul]
      have HQ := Lib.hid hq
      have HP := Lib.hid (fun w' => lprimeOf_any (j : Int) w' (by omega) (by omega))
      simp only [Int.toNat_natCast] at HP
      have HM := Lib.hid hmul
      clear hnx hq hcel hmul hj
      generalize Tic.prodF (L.take i) = p at h1 HM ⊢
      generalize Tic.lp j = r at HP HM
      go_wp2_with fail
      refine (HP.out _).mono ?_; rintro e w1 ⟨rfl, rfl⟩
      have hmul := HM.out
      go_wp2
      go_round
      case rel => exact ⟨i + 1, by omega, by go_num, by rw [HQ.out]⟩
      case measure => simp [intOf]; omega
    · obtain rfl : i = L.length := by omega
      go_wp2
      go_ret
      exact ⟨rfl, rfl⟩
set_option maxRecDepth 20000 in
set_option maxHeartbeats 2000000 in
theorem FnFactorsOf_walk (x : Option Addr) (len cap : Nat) (w : World) (h : Code w x len cap) :
    Calls Try.prog 8 #[.slice x len cap] w fun e w' => e = .returned (.bool true) ∧ Below w.heap.size w w' := by
  by_cases hl : 1048576 < len
  · go_enter Try.func8, Try.ntmps8
    go_wp2_with fail
    go_ret
    exact ⟨rfl, Below.refl _ _⟩
  · go_enter Try.func8, Try.ntmps8
    go_wp2_with fail
    refine (drawFactorsOf _ _ _ _ h).mono ?_; rintro e w1 ⟨n, s, rfl, n0, n1, s0, s1, hb⟩
    have HB := Lib.hid hb
    clear hb h hl
    by_cases hv : Tic.Valid n s
    · have g1 := hv.1
      have g2 := hv.2.1
      have hlt := hv.lt
      have hs := hv.lt_pow
      have HV := Lib.hid hv
      obtain ⟨N, rfl⟩ := Int.eq_ofNat_of_zero_le (show 0 ≤ n by omega)
      obtain ⟨S, rfl⟩ := Int.eq_ofNat_of_zero_le hv.2.2.1
      simp only [Int.toNat_natCast] at hs
      have HI := Lib.hid (fun w => iFactorsOf_yes _ _ w hv)
      have HS := Lib.hid (fun w => sFactorsOf_yes _ _ w hv)
      have HSH := Lib.hid (fun w => iShiftSet_yes (N : Int) (S : Int) 1 w hv ⟨by omega, by omega⟩)
      have HTU := Lib.hid (fun w => iTurnSet_yes (N : Int) (S : Int) 0 w hv ⟨by omega, by omega⟩)
      have HI2 := Lib.hid (fun w => iFactorsOf_yes _ _ w (Tic.valid_shf hv 1))
      have HI3 := Lib.hid (fun w => iFactorsOf_yes _ _ w (Tic.valid_tur hv 0))
      have HW := Lib.hid (fun w => lweight_any (S : Int) w (by omega) hlt)
      simp only [Int.toNat_natCast] at HI HS HSH HTU HI2 HI3 HW
      rw [Tic.factors_shf (by omega) (by omega)] at HI2
      rw [Tic.factors_tur (by omega) (by omega) hs] at HI3
      obtain ⟨f1, f2, f3⟩ := Tic.fac_prod (n := N) (by omega) (by omega) hs
      have HEL : Hid (∀ y, y ∈ Tic.factors N S → ∃ j : Nat, y = j ∧ 2 ≤ j ∧ j ≤ 12 ∧ N % j = 0) := Lib.hid (fun y hy => by
        obtain ⟨j, a, b, c, d⟩ := Tic.mem_flTo N S y (N + 1) hy
        exact ⟨j, a, c, by omega, d⟩)
      have HAS : Hid ((Tic.factors N S).Pairwise (· < ·)) := Lib.hid (Tic.asc_flTo N S (N + 1))
      have hw12 := Tic.wt_le 12 S
      generalize Tic.wt 12 S = c at f1 hw12 HW
      generalize Tic.factors N S = F at HI HS HI2 HI3 f1 f2 f3 HEL HAS
      generalize Tic.shf N 1 S = S1 at HSH HI2
      generalize Tic.tur N 0 S = S2 at HTU HI3
      have HPR := Lib.hid (fun (v : Value) (B : Nat) (w : World) (h : Row w B v F) => lproduct_any F v B w h (fun y hy => by obtain ⟨j, a, b, c, _⟩ := HEL.out y hy; exact ⟨j, a, b, c⟩) f3)
      have HLA := Lib.hid (fun (v : Value) (B : Nat) (w : World) (h : Row w B v F) => lascends_any F v B w h HAS.out (fun y hy => by obtain ⟨j, rfl, b, c, _⟩ := HEL.out y hy; omega))
      generalize Tic.prodF F = q at f1 f2 f3 HPR
      have hmod : ((c : Int) % (q : Int)) = 0 := by rw [← Int.natCast_emod, f1]; rfl
      have hmod2 : ((c : Int) % (q : Int) == 0) = true := by rw [hmod]; rfl
      clear hs hv f1
      go_wp2_with fail
      refine (HI.out _).mono ?_; rintro e w2 ⟨v0, rfl, hr, hb⟩
      have R0 := Lib.hid hr
      replace HB := Lib.hid (HB.out.trans (hb.mono HB.out.size))
      clear hb hr
      go_wp2_with fail
      refine (HS.out _).mono ?_; rintro e w2 ⟨v1, rfl, hr, hb⟩
      have R1 := Lib.hid hr
      replace R0 := Lib.hid (R0.out.kept hb)
      replace HB := Lib.hid (HB.out.trans (hb.mono HB.out.size))
      clear hb hr
      go_wp2_with fail
      refine (equalInts_yes _ _ _ _ _ _ R0.out R1.out).mono ?_; rintro e w2 ⟨rfl, hb⟩
      replace R0 := Lib.hid (R0.out.kept hb)
      replace HB := Lib.hid (HB.out.trans (hb.mono HB.out.size))
      clear hb
      go_wp2_with fail
      refine (implValid_yes _ _ _ HV.out).mono ?_; rintro e w3 ⟨rfl, rfl⟩
      have hl2 := R0.out.2
      obtain ⟨a, cp, rfl, hvw⟩ := R0.out.view
      have HVW := Lib.hid hvw
      clear hvw
      go_wp2
      obtain ⟨W0, hW0⟩ : ∃ W0 : World, W0 = w2 := ⟨_, rfl⟩
      go_loopw [6] (fun t6 wr => ∃ i : Nat, i ≤ F.length ∧ t6 = .int .i64 i ∧ Hid (Below w2.heap.size w2 wr)) (fun t6 _ => F.length - (intOf t6).toNat)
      case atStart => exact ⟨0, Nat.zero_le _, rfl, Lib.hid (Below.refl _ _)⟩
      case round =>
        obtain ⟨i, hi, rfl, HK⟩ := hrel
        by_cases hli : i < F.length
        · obtain ⟨g, rfl, _, hgl, hcel⟩ := HVW.out (by omega)
          have hcl := (HK.out.cell (p := ⟨g, i, none⟩) hgl).trans (hcel i hli)
          obtain ⟨j, hj, j1, j2, j3⟩ := HEL.out _ (getD_mem hli)
          rw [hj] at hcl
          have hj0 : ¬ j = 0 := by omega
          have hjm : ((N : Int) % (j : Int)) = 0 := by rw [← Int.natCast_emod, j3]; rfl
          have hjm2 : ((N : Int) % (j : Int) != 0) = false := by rw [hjm]; rfl
          clear hcel hj j3
          go_wp2
          go_roundw
          case rel => exact ⟨i + 1, by omega, by go_num, HK⟩
          case measure => simp [intOf]; omega
        · obtain rfl : i = F.length := by omega
          replace R0 := Lib.hid (R0.out.kept HK.out)
          replace HB := Lib.hid (HB.out.trans (HK.out.mono HB.out.size))
          clear HK
          go_wp2_with fail
          refine (HLA.out _ _ _ R0.out).mono ?_; rintro e w2 ⟨rfl, hb⟩
          replace R0 := Lib.hid (R0.out.kept hb)
          replace HB := Lib.hid (HB.out.trans (hb.mono HB.out.size))
          clear hb
          go_wp2_with fail
          refine (HW.out _).mono ?_; rintro e w3 ⟨rfl, rfl⟩
          go_wp2_with fail
          refine (HPR.out _ _ _ R0.out).mono ?_; rintro e w3 ⟨rfl, rfl⟩
          go_wp2_with fail
          refine (HSH.out _).mono ?_; rintro e w2 ⟨rfl, hb⟩
          replace R0 := Lib.hid (R0.out.kept hb)
          replace HB := Lib.hid (HB.out.trans (hb.mono HB.out.size))
          clear hb
          go_wp2_with fail
          refine (HI2.out _).mono ?_; rintro e w2 ⟨v5, rfl, hr, hb⟩
          have R5 := Lib.hid hr
          replace R0 := Lib.hid (R0.out.kept hb)
          replace HB := Lib.hid (HB.out.trans (hb.mono HB.out.size))
          clear hb hr
          go_wp2_with fail
          refine (equalInts_yes _ _ _ _ _ _ R5.out R0.out).mono ?_; rintro e w2 ⟨rfl, hb⟩
          replace R0 := Lib.hid (R0.out.kept hb)
          replace HB := Lib.hid (HB.out.trans (hb.mono HB.out.size))
          clear hb
          go_wp2_with fail
          refine (HTU.out _).mono ?_; rintro e w2 ⟨rfl, hb⟩
          replace R0 := Lib.hid (R0.out.kept hb)
          replace HB := Lib.hid (HB.out.trans (hb.mono HB.out.size))
          clear hb
          go_wp2_with fail
          refine (HI3.out _).mono ?_; rintro e w2 ⟨v6, rfl, hr, hb⟩
          have R6 := Lib.hid hr
          replace R0 := Lib.hid (R0.out.kept hb)
          replace HB := Lib.hid (HB.out.trans (hb.mono HB.out.size))
          clear hb hr
          go_wp2_with fail
          refine (equalInts_yes _ _ _ _ _ _ R6.out R0.out).mono ?_; rintro e w2 ⟨rfl, hb⟩
          replace HB := Lib.hid (HB.out.trans (hb.mono HB.out.size))
          clear hb
          go_wp2_with fail
          go_ret
          exact ⟨rfl, HB.out⟩
    · skip
      go_wp2_with fail
      refine (iFactorsOf_no _ _ _ hv).mono ?_; rintro e w2 ⟨v0, rfl, hr, hb⟩
      have R0 := Lib.hid hr
      replace HB := Lib.hid (HB.out.trans (hb.mono HB.out.size))
      clear hb hr
      go_wp2_with fail
      refine (sFactorsOf_no _ _ _ hv).mono ?_; rintro e w2 ⟨v1, rfl, hr, hb⟩
      have R1 := Lib.hid hr
      replace R0 := Lib.hid (R0.out.kept hb)
      replace HB := Lib.hid (HB.out.trans (hb.mono HB.out.size))
      clear hb hr
      go_wp2_with fail
      refine (equalInts_yes _ _ _ _ _ _ R0.out R1.out).mono ?_; rintro e w2 ⟨rfl, hb⟩
      replace R0 := Lib.hid (R0.out.kept hb)
      replace HB := Lib.hid (HB.out.trans (hb.mono HB.out.size))
      clear hb
      go_wp2_with fail
      refine (implValid_no _ _ _ hv).mono ?_; rintro e w3 ⟨rfl, rfl⟩
      go_wp2_with fail
      refine (sFactorsOf_no _ _ _ hv).mono ?_; rintro e w2 ⟨v2, rfl, hr, hb⟩
      have R2 := Lib.hid hr
      replace R0 := Lib.hid (R0.out.kept hb)
      replace HB := Lib.hid (HB.out.trans (hb.mono HB.out.size))
      clear hb hr
      go_wp2_with fail
      refine (equalInts_yes _ _ _ _ _ _ R0.out R2.out).mono ?_; rintro e w2 ⟨rfl, hb⟩
      replace HB := Lib.hid (HB.out.trans (hb.mono HB.out.size))
      clear hb
      go_wp2_with fail
      go_ret
      exact ⟨rfl, HB.out⟩
end Go.Proofs.Ytgpbgbcdlebaiaa
