/-
  The walk of the law of canons.
-/
import Derived.Test.YtgpbgbcdlebaiaaTwoSets
import Derived.Test.YtgpbgbcdlebaiaaSums
import Derived.Test.YtgpbgbcdlebaiaaCanonOf
import Derived.Test.YtgpbgbcdlebaiaaEq
import Derived.Test.YtgpbgbcdlebaiaaLawBit
namespace Go.Proofs.Ytgpbgbcdlebaiaa
open Go.RowKit
set_option linter.unusedVariables false

theorem one_next {C : Nat → Nat} {i : Nat} {ob ob' : Bool} (h : ob = true ↔ ∀ t, t < i → C t = 1) (h' : ob' = true ↔ ob = true ∧ C i = 1) : ob' = true ↔ ∀ t, t < i + 1 → C t = 1 := by
  rw [h', h]
  constructor
  · rintro ⟨a, b⟩ t ht
    rcases Nat.lt_or_eq_of_le (Nat.le_of_lt_succ ht) with h1 | rfl
    · exact a t h1
    · exact b
  · exact fun k => ⟨fun t ht => k t (by omega), k i (by omega)⟩
theorem one_iff {n : Nat} (h : 0 < n) (a b : Nat) : (∀ t, t < n → Tic.cn n a b t n = 1) ↔ Tic.okk n a b n = true ∧ Tic.un n a b n = 2 ^ n - 1 := by
  have hb : ∀ t, (2 ^ n - 1).testBit t = decide (t < n) := fun t => Nat.testBit_two_pow_sub_one n t
  constructor
  · intro k
    refine ⟨(Tic.okk_iff n a b n).2 fun t => ?_, Nat.eq_of_testBit_eq fun t => ?_⟩
    · by_cases ht : t < n
      · rw [k t ht]; exact Nat.le_refl _
      · rw [Tic.cn_big h _ _ _ _ (by omega)]; omega
    · rw [Tic.un_bit, hb]
      by_cases ht : t < n
      · rw [k t ht]; simp [ht]
      · rw [Tic.cn_big h _ _ _ _ (by omega)]; simp [ht]
  · rintro ⟨k1, k2⟩ t ht
    have h1 := (Tic.okk_iff n a b n).1 k1 t
    have h2 := Tic.un_bit n a b t n
    rw [k2, hb, decide_eq_true ht] at h2
    have h3 := of_decide_eq_true h2.symm
    omega
set_option maxRecDepth 20000 in
set_option maxHeartbeats 2000000 in
theorem FnCanonOf_walk (x : Option Addr) (len cap : Nat) (w : World) (h : Code w x len cap) :
    Calls Try.prog 10 #[.slice x len cap] w fun e w' => e = .returned (.bool true) ∧ Below w.heap.size w w' := by
  by_cases hl : 1048576 < len
  · go_enter Try.func10, Try.ntmps10
    go_wp2_with fail
    go_ret
    exact ⟨rfl, Below.refl _ _⟩
  · go_enter Try.func10, Try.ntmps10
    go_wp2_with fail
    refine (drawCanonOf _ _ _ _ h).mono ?_; rintro e w1 ⟨n, a, b, rfl, n0, n1, a0, a1, b0, b1, hb⟩
    have HB := Lib.hid hb
    clear hb h hl
    by_cases hv : TwoOk n a b
    · obtain ⟨v1, v2⟩ := hv
      have g1 := v1.1
      have g2 := v1.2.1
      have l1 := v1.lt
      have l2 := v2.lt
      have p1 := v1.lt_pow
      have p2 := v2.lt_pow
      obtain ⟨N, rfl⟩ := Int.eq_ofNat_of_zero_le (show 0 ≤ n by omega)
      obtain ⟨A, rfl⟩ := Int.eq_ofNat_of_zero_le v1.2.2.1
      obtain ⟨B, rfl⟩ := Int.eq_ofNat_of_zero_le v2.2.2.1
      have HI := Lib.hid (fun w => iCanonOf_yes _ _ _ w ⟨v1, v2⟩)
      have HS := Lib.hid (fun w => sCanonOf_yes _ _ _ w ⟨v1, v2⟩)
      have HSU := Lib.hid (fun w => iSumsOf_yes _ _ _ w ⟨v1, v2⟩)
      have HWA := Lib.hid (fun w => lweight_any (A : Int) w (by omega) l1)
      have HWB := Lib.hid (fun w => lweight_any (B : Int) w (by omega) l2)
      have HPW := Lib.hid (fun w => lpower_any (N : Int) w (by omega) (by omega))
      simp only [Int.toNat_natCast] at HI HS HSU p1 p2 HWA HWB HPW
      have hul := Tic.un_lt (n := N) (by omega) A B N
      have hpN := Tic.pow_le_12 g2
      rw [Int.toNat_natCast] at hpN
      have htot := Tic.cn_total (n := N) (a := A) (b := B) (by omega)
      rw [← Tic.wt_low (m := 12) p1 (by omega), ← Tic.wt_low (m := 12) p2 (by omega)] at htot
      have HONE := Lib.hid (one_iff (n := N) (by omega) A B)
      have hcle : ∀ t, Tic.cn N A B t N ≤ 12 := fun t => Nat.le_trans (Tic.cn_le N A B t N) (by omega)
      have hbit : ∀ (i : Nat) (w : World), i < N → Calls Try.prog 33 #[.int .i64 (Tic.un N A B N : Int), .int .i64 (i : Int)] w fun e w' => e = .returned (.int .i64 (if 0 < Tic.cn N A B i N then 1 else 0)) ∧ w = w' := fun i w hi => by
        have := lbit_any (Tic.un N A B N : Int) (i : Int) w (by omega) (by omega) (by omega) (by omega)
        simp only [Int.toNat_natCast] at this
        unfold Tic.bitI at this
        rw [Tic.un_bit] at this
        simpa only [decide_eq_true_eq] using this
      have c1 := Tic.wt_le 12 A
      have c2 := Tic.wt_le 12 B
      generalize Tic.wt 12 A = ca at HWA htot c1
      generalize Tic.wt 12 B = cb at HWB htot c2
      have hq12 : ca * cb ≤ 144 := Nat.mul_le_mul c1 c2
      obtain ⟨C, hCC⟩ : ∃ C : Nat → Nat, C = fun t => Tic.cn N A B t N := ⟨_, rfl⟩
      have hCt : ∀ t, Tic.cn N A B t N = C t := fun t => by rw [hCC]
      rw [← hCC] at HI HS htot
      simp only [hCt] at HONE hcle hbit
      have HTOT := Lib.hid (fun (v : Value) (B : Nat) (w : World) (h : Row w B v (Tic.cts N C)) => ltotal_any C N v B w h (by omega) hcle)
      rw [htot] at HTOT
      obtain ⟨q, hq⟩ : ∃ q, q = ca * cb := ⟨_, rfl⟩
      rw [← hq] at hq12 HTOT
      have HM : Hid ((ca : Int) * (cb : Int) = (q : Int)) := Lib.hid (by rw [hq, Int.natCast_mul])
      have HBIT := Lib.hid hbit
      clear hCC hCt hbit hcle htot hq v1 v2 p1 p2
      generalize Tic.okk N A B N = ok at HSU HONE
      generalize Tic.un N A B N = U at HSU HONE HBIT hul
      generalize 2 ^ N = P at hul hpN HPW HONE
      have hN0 : ((N : Int) == 0) = false := by rw [beq_eq_false_iff_ne]; omega
      go_wp2_with fail
      refine (HI.out _).mono ?_; rintro e w2 ⟨v0, rfl, hr, hb⟩
      obtain ⟨ad, cp, rfl, _⟩ := hr.view
      rw [Tic.cts_length] at hr ⊢
      have R0 := Lib.hid hr
      replace HB := Lib.hid (HB.out.trans (hb.mono HB.out.size))
      clear hb hr
      go_wp2_with fail
      refine (HS.out _).mono ?_; rintro e w2 ⟨v1, rfl, hr, hb⟩
      have R1 := Lib.hid hr
      replace R0 := Lib.hid (R0.out.kept hb)
      replace HB := Lib.hid (HB.out.trans (hb.mono HB.out.size))
      clear hb hr
      go_wp2_with fail
      refine (equalInts_yes _ _ _ _ _ _ R0.out R1.out).mono ?_; rintro e w2 ⟨rfl, hb⟩
      replace R0 := Lib.hid (R0.out.kept hb)
      replace HB := Lib.hid (HB.out.trans (hb.mono HB.out.size))
      clear hb R1
      go_wp2_with fail
      refine (HSU.out _).mono ?_; rintro e w5 ⟨rfl, hb⟩
      replace R0 := Lib.hid (R0.out.kept hb)
      replace HB := Lib.hid (HB.out.trans (hb.mono HB.out.size))
      clear hb
      obtain ⟨BB, hBB⟩ : ∃ BB, Hid (Row w5 BB (.slice ad N cp) (Tic.cts N C)) := ⟨_, R0⟩
      clear R0
      go_wp2
      go_loopw [9, 10] (fun t9 t10 wr => ∃ (i : Nat) (ob : Bool), i ≤ N ∧ t10 = .int .i64 i ∧ t9 = .bool ob ∧ Hid (ob = true ↔ ∀ t, t < i → C t = 1) ∧ Hid (Row wr BB (.slice ad N cp) (Tic.cts N C)) ∧ Hid (Below w.heap.size w wr)) (fun _ t10 _ => N - (intOf t10).toNat)
      case atStart => exact ⟨0, true, Nat.zero_le _, rfl, rfl, Lib.hid ⟨fun _ t ht => absurd ht (Nat.not_lt_zero _), fun _ => rfl⟩, hBB, HB⟩
      case round =>
        clear hBB HB
        obtain ⟨i, ob, hi, rfl, rfl, HOB, R0, HB⟩ := hrel
        by_cases hli : i < N
        · obtain ⟨a', c', e, hvw⟩ := R0.out.view
          rw [Tic.cts_length] at e hvw
          injection e with e1 _ e2
          subst e1 e2
          obtain ⟨g, rfl, _, hgl, hcel⟩ := hvw (by omega)
          have hcl := hcel i hli
          rw [Tic.cts_getD _ hli] at hcl
          have HBI := Lib.hid (fun w => HBIT.out i w hli)
          have HNX := Lib.hid (fun ob' : Bool => one_next (i := i) (ob' := ob') HOB.out)
          have hk0 : Below wr.heap.size wr wr := Below.refl _ _
          clear hcel hvw HOB
          generalize C i = ci at hcl HBI HNX
          have hN1 : (i : Int) < (N : Int) := by omega
          rcases (show ci = 0 ∨ ci = 1 ∨ 2 ≤ ci by omega) with rfl | rfl | h2
          · rw [if_neg (by omega)] at HBI
            cases ob
            all_goals
              go_wp2
              go_region_held3 (fun w' => w'.cell? ⟨g, i, none⟩ = some (.int .i64 (0 : Nat)))
                (first | go_keep | (refine (hk0.cell ?_).trans ?_ <;> assumption))
                (first | (go_at_call 33; refine (HBI.out _).mono ?_; rintro e wx ⟨rfl, rfl⟩))
              have R2 := Lib.hid (R0.out.kept hk0)
              have HB2 := Lib.hid (HB.out.trans (hk0.mono HB.out.size))
              clear hk0
              go_wp2
              go_roundw
              case rel => exact ⟨i + 1, false, by omega, by go_num, rfl, Lib.hid (HNX.out _ (by simp)), R2, Lib.hid HB2.out.drew⟩
              case measure => simp [intOf]; omega
          · rw [if_pos (by omega)] at HBI
            cases ob
            all_goals
              go_wp2
              go_region_held3 (fun w' => w'.cell? ⟨g, i, none⟩ = some (.int .i64 (1 : Nat)))
                (first | go_keep | (refine (hk0.cell ?_).trans ?_ <;> assumption))
                (first | (go_at_call 33; refine (HBI.out _).mono ?_; rintro e wx ⟨rfl, rfl⟩))
              have R2 := Lib.hid (R0.out.kept hk0)
              have HB2 := Lib.hid (HB.out.trans (hk0.mono HB.out.size))
              clear hk0
              go_wp2
              go_roundw
              case rel => exact ⟨i + 1, _, by omega, by go_num, rfl, Lib.hid (HNX.out _ (by simp)), R2, Lib.hid HB2.out.drew⟩
              case measure => simp [intOf]; omega
          · rw [if_pos (by omega)] at HBI
            have h3 : ((ci : Int) == 1) = false := by rw [beq_eq_false_iff_ne]; omega
            have h5 : ci ≠ 1 := by omega
            obtain ⟨z, hz⟩ : ∃ z : Int, z = ci := ⟨_, rfl⟩
            have h4 : 0 < z := by omega
            rw [← hz] at hcl h3
            clear hz h2
            cases ob
            all_goals
              go_wp2
              go_region_held3 (fun w' => w'.cell? ⟨g, i, none⟩ = some (.int .i64 z))
                (first | go_keep | (refine (hk0.cell ?_).trans ?_ <;> assumption))
                (first | (go_at_call 33; refine (HBI.out _).mono ?_; rintro e wx ⟨rfl, rfl⟩))
              have R2 := Lib.hid (R0.out.kept hk0)
              have HB2 := Lib.hid (HB.out.trans (hk0.mono HB.out.size))
              clear hk0
              go_wp2
              go_roundw
              case rel => exact ⟨i + 1, _, by omega, by go_num, rfl, Lib.hid (HNX.out _ (by simp [h5])), R2, Lib.hid HB2.out.drew⟩
              case measure => simp [intOf]; omega
        · obtain rfl : i = N := by omega
          have HFN := Lib.hid (HOB.out.trans HONE.out)
          clear HOB HONE
          go_wp2_with fail
          refine (HTOT.out _ _ _ R0.out).mono ?_; rintro e w3 ⟨rfl, rfl⟩
          go_wp2_with fail
          refine (HWA.out _).mono ?_; rintro e w3 ⟨rfl, rfl⟩
          go_wp2_with fail
          refine (HWB.out _).mono ?_; rintro e w3 ⟨rfl, rfl⟩
          have hmul := HM.out
          cases ob with
          | true =>
            obtain ⟨rfl, hUP⟩ := HFN.out.1 rfl
            have hU2 : ((U : Int) == (P : Int) - 1) = true := by rw [beq_iff_eq]; omega
            clear hUP
            go_wp2_with fail
            refine (HPW.out _).mono ?_; rintro e w3 ⟨rfl, rfl⟩
            go_wp2_with fail
            go_ret
            exact ⟨rfl, HB.out⟩
          | false =>
            cases ok with
            | false =>
              go_wp2_with fail
              go_ret
              exact ⟨rfl, HB.out⟩
            | true =>
              have hU2 : ((U : Int) == (P : Int) - 1) = false := by
                rw [beq_eq_false_iff_ne]
                intro e
                have := HFN.out.2 ⟨rfl, by omega⟩
                cases this
              go_wp2_with fail
              refine (HPW.out _).mono ?_; rintro e w3 ⟨rfl, rfl⟩
              go_wp2_with fail
              go_ret
              exact ⟨rfl, HB.out⟩
    · skip
      go_wp2_with fail
      refine (iCanonOf_no _ _ _ _ hv).mono ?_; rintro e w2 ⟨v0, rfl, hr, hb⟩
      have R0 := Lib.hid hr
      replace HB := Lib.hid (HB.out.trans (hb.mono HB.out.size))
      clear hb hr
      go_wp2_with fail
      refine (sCanonOf_no _ _ _ _ hv).mono ?_; rintro e w2 ⟨v1, rfl, hr, hb⟩
      have R1 := Lib.hid hr
      replace R0 := Lib.hid (R0.out.kept hb)
      replace HB := Lib.hid (HB.out.trans (hb.mono HB.out.size))
      clear hb hr
      go_wp2_with fail
      refine (equalInts_yes _ _ _ _ _ _ R0.out R1.out).mono ?_; rintro e w5 ⟨rfl, hb⟩
      replace R0 := Lib.hid (R0.out.kept hb)
      replace HB := Lib.hid (HB.out.trans (hb.mono HB.out.size))
      clear hb R1
      obtain ⟨ad, cp, rfl, _⟩ := R0.out.view
      go_wp2_with fail
      refine (sCanonOf_no _ _ _ _ hv).mono ?_; rintro e w2 ⟨v2, rfl, hr, hb⟩
      have R2 := Lib.hid hr
      replace R0 := Lib.hid (R0.out.kept hb)
      replace HB := Lib.hid (HB.out.trans (hb.mono HB.out.size))
      clear hb hr
      go_wp2_with fail
      refine (equalInts_yes _ _ _ _ _ _ R0.out R2.out).mono ?_; rintro e w5 ⟨rfl, hb⟩
      replace HB := Lib.hid (HB.out.trans (hb.mono HB.out.size))
      clear hb
      go_wp2_with fail
      go_ret
      exact ⟨rfl, HB.out⟩
end Go.Proofs.Ytgpbgbcdlebaiaa
