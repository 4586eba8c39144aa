/-
  The walks of the laws of tones and of all gaps.
-/
import Derived.Test.YtchaeiecohldkaaLaws3
namespace Go.Proofs.Ytchaeiecohldkaa
open Go.RowKit
set_option linter.unusedVariables false

theorem ltotal_any (g m c : Nat) (C : Nat → Nat) (w : World) (hm : m ≤ 100) (hC : ∀ d, d < m → C d ≤ 1000) (hc : ∀ d, d < m → w.cell? ⟨g, d, none⟩ = some (.int .i64 (C d))) :
    Calls Try.prog 36 #[.slice (some ⟨g, 0, none⟩) m c] w fun e w' => e = .returned (.int .i64 (Tic.gsum C m : Int)) ∧ w = w' := by
  have HC := Lib.hid hC
  have HX := Lib.hid hc
  clear hC hc
  go_enter Try.func36, Try.ntmps36
  go_wp2
  go_loop [3, 4] (fun t3 t4 => ∃ k : Nat, k ≤ m ∧ t4 = .int .i64 k ∧ t3 = .int .i64 (Tic.gsum C k : Int) ∧ Hid (Tic.gsum C k ≤ k * 1000)) (fun _ t4 => m - (intOf t4).toNat)
  case atStart => exact ⟨0, Nat.zero_le _, rfl, rfl, Nat.le_refl _⟩
  case round =>
    obtain ⟨k, hk, rfl, rfl, HS⟩ := hrel
    have hb := HS.out
    by_cases hlt : k < m
    · have d1 := HX.out k hlt
      have d2 := HC.out k hlt
      have HN : Hid (Tic.gsum C (k + 1) = Tic.gsum C k + C k) := rfl
      go_wp2
      go_round
      case rel => exact ⟨k + 1, by omega, by go_num, congrArg (Value.int .i64) (by have := HN.out; omega), by have := HN.out; show Tic.gsum C (k + 1) ≤ (k + 1) * 1000; omega⟩
      case measure => simp [intOf]; omega
    · have : k = m := by omega
      subst this
      go_wp2
      go_ret
      exact ⟨rfl, rfl⟩

set_option maxRecDepth 20000 in
set_option maxHeartbeats 1000000 in
theorem FnGapsOf_walk (x : Option Addr) (len cap : Nat) (w : World) (h : Code w x len cap) :
    Calls Try.prog 8 #[.slice x len cap] w fun e w' => e = .returned (.bool true) ∧ Below w.heap.size w w' := by
  by_cases hl : 1048576 < len
  · go_enter Try.func8, Try.ntmps8
    go_wp2_with fail
    go_ret
    exact ⟨rfl, Below.refl _ _⟩
  · go_enter Try.func8, Try.ntmps8
    go_wp2_with fail
    refine (drawGapsOf _ _ _ _ h).mono ?_; rintro e w1 ⟨n, s, rfl, n0, n1, s0, s1, hb⟩
    have HB := Lib.hid hb
    clear hb h hl
    by_cases hv : Tic.Valid n s
    · have hN := hv.1
      have hN2 := hv.2.1
      have hs := hv.lt_pow
      have hs12 := hv.lt
      obtain ⟨N, rfl⟩ := Int.eq_ofNat_of_zero_le (show 0 ≤ n by omega)
      obtain ⟨S, rfl⟩ := Int.eq_ofNat_of_zero_le hv.2.2.1
      rw [Int.toNat_natCast, Int.toNat_natCast] at hs
      have ET := Tic.gaps_total hs (by omega)
      have hK := Tic.wt_le 12 S
      clear hs
      generalize hk : Tic.wt 12 S = K at ET hK
      generalize ht : Tic.gsum (Tic.gAll N S) (N / 2) = T at ET
      have hT : T ≤ 72 := by have : K * K ≤ 12 * 12 := Nat.mul_le_mul hK hK; omega
      have hk1 : (K : Int) * ((K : Int) - 1) = 2 * (T : Int) := by
        rw [Int.mul_sub, ← Int.natCast_mul]; omega
      have HK := Lib.hid hk
      have HT := Lib.hid ht
      clear hk ht ET
      go_wp2_with fail
      refine (iGapsOf_yes _ _ _ hv).mono ?_; rintro e w2 ⟨v1, rfl, hr, hb⟩
      rw [Int.toNat_natCast, Int.toNat_natCast] at hr
      have R1 := Lib.hid hr
      clear hr
      replace HB := Lib.hid (HB.out.trans (hb.mono HB.out.size))
      clear hb
      go_wp2_with fail
      refine (sGapsOf_yes _ _ _ hv).mono ?_; rintro e w2 ⟨v2, rfl, hr, hb⟩
      rw [Int.toNat_natCast, Int.toNat_natCast] at hr
      have R2 := Lib.hid hr
      replace R1 := Lib.hid (R1.out.kept hb)
      clear hr
      replace HB := Lib.hid (HB.out.trans (hb.mono HB.out.size))
      clear hb
      go_wp2_with fail
      refine (equalInts_yes _ _ _ _ _ _ R1.out R2.out).mono ?_; rintro e w2 ⟨rfl, hb⟩
      replace R1 := Lib.hid (R1.out.kept hb)
      replace HB := Lib.hid (HB.out.trans (hb.mono HB.out.size))
      clear hb
      go_wp2_with fail
      refine (implValid_yes _ _ _ hv).mono ?_; rintro e w2 ⟨rfl, rfl⟩
      go_wp2_with fail
      refine (lweight_any _ _ (by omega) (by omega)).mono ?_; rintro e w3 ⟨rfl, rfl⟩; rw [Int.toNat_natCast, HK.out]
      obtain ⟨g, c, rfl, hg, hc⟩ := gaps_row R1.out (by omega)
      have HC := Lib.hid hc
      clear hc
      go_wp2_with fail
      refine (ltotal_any _ _ _ (Tic.gAll N S) _ (by omega) (fun d hd => Tic.gS_le N S N 0 d (by omega) (by omega) (by omega)) HC.out).mono ?_; rintro e w3 ⟨rfl, rfl⟩; rw [HT.out]
      go_wp2_with fail
      go_ret
      exact ⟨rfl, HB.out⟩
    · skip
      go_wp2_with fail
      refine (iGapsOf_no _ _ _ hv).mono ?_; rintro e w2 ⟨v1, rfl, hr, hb⟩
      have R1 := Lib.hid hr
      clear hr
      replace HB := Lib.hid (HB.out.trans (hb.mono HB.out.size))
      clear hb
      go_wp2_with fail
      refine (sGapsOf_no _ _ _ hv).mono ?_; rintro e w2 ⟨v2, rfl, hr, hb⟩
      have R2 := Lib.hid hr
      replace R1 := Lib.hid (R1.out.kept hb)
      replace HB := Lib.hid (HB.out.trans (hb.mono HB.out.size))
      clear hb hr
      go_wp2_with fail
      refine (equalInts_yes _ _ _ _ _ _ R1.out R2.out).mono ?_; rintro e w2 ⟨rfl, hb⟩
      replace R1 := Lib.hid (R1.out.kept hb)
      replace HB := Lib.hid (HB.out.trans (hb.mono HB.out.size))
      clear hb
      go_wp2_with fail
      refine (implValid_no _ _ _ hv).mono ?_; rintro e w2 ⟨rfl, rfl⟩
      go_wp2_with fail
      refine (sGapsOf_no _ _ _ hv).mono ?_; rintro e w2 ⟨v3, rfl, hr, hb⟩
      have R3 := Lib.hid hr
      replace R1 := Lib.hid (R1.out.kept hb)
      replace HB := Lib.hid (HB.out.trans (hb.mono HB.out.size))
      clear hb hr
      go_wp2_with fail
      refine (equalInts_yes _ _ _ _ _ _ R1.out R3.out).mono ?_; rintro e w2 ⟨rfl, hb⟩
      replace HB := Lib.hid (HB.out.trans (hb.mono HB.out.size))
      clear hb
      go_wp2_with fail
      go_ret
      exact ⟨rfl, HB.out⟩

theorem mod_bit (S b : Nat) : S % 2 ^ (b + 1) = S % 2 ^ b + if S.testBit b then 2 ^ b else 0 := by
  rw [Nat.mod_pow_succ, Nat.testBit_eq_decide_div_mod_eq]
  rcases Nat.mod_two_eq_zero_or_one (S / 2 ^ b) with h | h <;> simp [h]
theorem mod_same (S a : Nat) : ∀ b, a ≤ b → (tonesTo S a).length = (tonesTo S b).length → S % 2 ^ b = S % 2 ^ a
  | 0, h, _ => by rw [Nat.le_zero.1 h]
  | b + 1, h, e => by
    by_cases e2 : a = b + 1
    · rw [e2]
    · have hm := tonesTo_mono S a b (by omega)
      cases hb : S.testBit b with
      | false =>
        rw [tonesTo_no hb] at e
        rw [mod_bit, hb, mod_same S a b (by omega) e]; simp
      | true => rw [tonesTo_yes hb] at e; simp at e; omega
theorem mod_eq {S a b : Nat} (e : (tonesTo S a).length = (tonesTo S b).length) : S % 2 ^ b = S % 2 ^ a := by
  rcases Nat.le_total a b with h | h
  · exact mod_same S a b h e
  · exact (mod_same S b a h e.symm).symm
theorem mod_next {S y : Nat} (h : S.testBit y = true) : S % 2 ^ (y + 1) = S % 2 ^ y + 2 ^ y := by rw [mod_bit, h]; simp

theorem lascends_tones (S N : Nat) (v : Value) (B : Nat) (w : World) (h : Row w B v (tonesTo S N)) :
    Calls Try.prog 23 #[v] w fun e w' => e = .returned (.bool true) ∧ Below w.heap.size w w' := by
  have hl2 := h.2
  rcases h.cases with ⟨rfl, _⟩ | ⟨g, c, rfl, _, hg, hc, _⟩
  · go_enter Try.func23, Try.ntmps23
    go_wp2
    refine wp_loop_rounds 1 ?_
    rw [rounds_succ]
    go_wp2
    go_ret
    exact ⟨rfl, Below.refl _ _⟩
  · have HX : Hid (∀ i, 1 ≤ i → i < (tonesTo S N).length → ∃ x y : Nat, (tonesTo S N).getD (i - 1) 0 = (x : Int) ∧ (tonesTo S N).getD i 0 = (y : Int) ∧ x < y) := fun i h1 hi => by
      obtain ⟨x, _, _, hx, hxl⟩ := tonesTo_at S N (i - 1) (by omega)
      obtain ⟨y, _, _, hy, hyl⟩ := tonesTo_at S N i hi
      refine ⟨x, y, hx, hy, ?_⟩
      rcases Nat.lt_or_ge x y with q | q
      · exact q
      · have := tonesTo_mono S y x q; omega
    generalize hn : (tonesTo S N).length = n at hl2 hc HX
    have HC := Lib.hid hc
    clear hn hc h
    by_cases hn0 : n = 0
    · subst hn0
      go_enter Try.func23, Try.ntmps23
      go_wp2
      refine wp_loop_rounds 1 ?_
      rw [rounds_succ]
      go_wp2
      go_ret
      exact ⟨rfl, Below.refl _ _⟩
    · go_enter Try.func23, Try.ntmps23
      go_wp2
      go_loopw [3] (fun t3 wr => ∃ k : Nat, 1 ≤ k ∧ k ≤ n ∧ t3 = .int .i64 k ∧ Below w.heap.size w wr) (fun t3 _ => n - (intOf t3).toNat)
      case atStart => exact ⟨1, Nat.le_refl _, by omega, rfl, Below.refl _ _⟩
      case round =>
        obtain ⟨k, hk0, hk, rfl, hbel⟩ := hrel
        by_cases hlt : k < n
        · obtain ⟨x, y, hx, hy, hxy⟩ := HX.out k hk0 hlt
          have d1 := (hbel.cell (p := ⟨g, k, none⟩) hg).trans (HC.out k hlt)
          have d2 := (hbel.cell (p := ⟨g, k - 1, none⟩) hg).trans (HC.out (k - 1) (by omega))
          rw [hy] at d1
          rw [hx] at d2
          clear hx hy
          have hi0 : (0 : Int) ≤ (k : Int) - 1 := by omega
          have hi1 : (k : Int) - 1 < (n : Int) := by omega
          have hi2 : (k : Int) < (n : Int) := by omega
          go_wp2
          go_region
          all_goals
            go_wp2
            go_roundw
            case rel => exact ⟨k + 1, by omega, by omega, by go_num, hbel.drew⟩
            case measure => simp [intOf]; omega
        · have : k = n := by omega
          subst this
          go_wp2
          go_ret
          exact ⟨rfl, hbel⟩

set_option maxRecDepth 20000 in
set_option maxHeartbeats 1000000 in
theorem FnTonesOf_walk (x : Option Addr) (len cap : Nat) (w : World) (h : Code w x len cap) :
    Calls Try.prog 4 #[.slice x len cap] w fun e w' => e = .returned (.bool true) ∧ Below w.heap.size w w' := by
  by_cases hl : 1048576 < len
  · go_enter Try.func4, Try.ntmps4
    go_wp2_with fail
    go_ret
    exact ⟨rfl, Below.refl _ _⟩
  · go_enter Try.func4, Try.ntmps4
    go_wp2_with fail
    refine (drawTonesOf _ _ _ _ h).mono ?_; rintro e w1 ⟨n, s, rfl, n0, n1, s0, s1, hb⟩
    have HB := Lib.hid hb
    clear hb h hl
    by_cases hv : Tic.Valid n s
    · have hN := hv.1
      have hN2 := hv.2.1
      have hs := hv.lt_pow
      have hs12 := hv.lt
      obtain ⟨N, rfl⟩ := Int.eq_ofNat_of_zero_le (show 0 ≤ n by omega)
      obtain ⟨S, rfl⟩ := Int.eq_ofNat_of_zero_le hv.2.2.1
      rw [Int.toNat_natCast, Int.toNat_natCast] at hs
      have HS := Lib.hid (Nat.mod_eq_of_lt hs)
      clear hs
      go_wp2_with fail
      refine (iTonesOf_yes _ _ _ hv).mono ?_; rintro e w2 ⟨v1, rfl, hr, hb⟩
      rw [Int.toNat_natCast, Int.toNat_natCast] at hr
      have R1 := Lib.hid hr
      clear hr
      replace HB := Lib.hid (HB.out.trans (hb.mono HB.out.size))
      clear hb
      go_wp2_with fail
      refine (sTonesOf_yes _ _ _ hv).mono ?_; rintro e w2 ⟨v2, rfl, hr, hb⟩
      rw [Int.toNat_natCast, Int.toNat_natCast] at hr
      have R2 := Lib.hid hr
      replace R1 := Lib.hid (R1.out.kept hb)
      clear hr
      replace HB := Lib.hid (HB.out.trans (hb.mono HB.out.size))
      clear hb
      go_wp2_with fail
      refine (equalInts_yes _ _ _ _ _ _ R1.out R2.out).mono ?_; rintro e w2 ⟨rfl, hb⟩
      replace R1 := Lib.hid (R1.out.kept hb)
      replace HB := Lib.hid (HB.out.trans (hb.mono HB.out.size))
      clear hb
      go_wp2_with fail
      refine (implValid_yes _ _ _ hv).mono ?_; rintro e w2 ⟨rfl, rfl⟩
      rcases R1.out.cases with ⟨rfl, hT⟩ | ⟨g, c, rfl, _, hg, hc, _⟩
      · have hS0 : S = 0 := by
          have := mod_eq (S := S) (a := 0) (b := N) (by rw [hT]; rfl)
          rw [HS.out] at this
          simpa [Nat.mod_one] using this
        clear hT
        subst hS0
        go_wp2
        refine wp_loop_rounds 1 ?_
        rw [rounds_succ]
        go_wp2_with fail
        refine (lascends_tones 0 N _ _ _ R1.out).mono ?_; rintro e w2 ⟨rfl, hb⟩
        replace HB := Lib.hid (HB.out.trans (hb.mono HB.out.size))
        clear hb
        go_wp2_with fail
        go_ret
        exact ⟨rfl, HB.out⟩
      · have HC := Lib.hid hc
        have hl2 := R1.out.2
        generalize hl : (tonesTo S N).length = l at HC hl2
        have HL := Lib.hid hl
        have hl12 : l ≤ 12 := by rw [← hl]; have := tonesTo_le S N; omega
        clear hc hl
        have r2 := R1.out
        rw [HL.out] at r2
        have R3 := Lib.hid r2
        clear r2
        go_wp2
        go_loop [6, 7] (fun t6 t7 => ∃ Y i M : Nat, Y ≤ N ∧ i ≤ l ∧ t7 = .int .i64 i ∧ t6 = .int .i64 M ∧ M ≤ S ∧ Hid (M = S % 2 ^ Y) ∧ Hid ((tonesTo S Y).length = i)) (fun _ t7 => l - (intOf t7).toNat)
        case atStart => exact ⟨0, 0, 0, by omega, by omega, rfl, rfl, by omega, by show 0 = S % 2 ^ 0; simp [Nat.mod_one], rfl⟩
        case round =>
          obtain ⟨Y, i, M, hY, hi, rfl, rfl, hML, HM, HY⟩ := hrel
          by_cases hli : i < l
          · obtain ⟨y, hyN, hyb, hyv, hyl⟩ := tonesTo_at S N i (by rw [HL.out]; exact hli)
            have d1 := HC.out i hli
            rw [hyv] at d1
            have HNX : Hid (S % 2 ^ (y + 1) = M + 2 ^ y) := by
              show _ = _
              rw [mod_next hyb, mod_eq (S := S) (a := Y) (b := y) (HY.out.trans hyl.symm), HM.out]
            have HYL : Hid ((tonesTo S (y + 1)).length = i + 1) := by show _ = _; rw [tonesTo_next hyb, hyl]
            have hp : 2 ^ y ≤ 4096 := by have := Tic.pow_le_12 (n := (y : Int)) (by omega); rwa [Int.toNat_natCast] at this
            clear hyb hyv hyl
            go_wp2_with fail
            refine (lpower_any _ _ (by omega) (by omega)).mono ?_; rintro e w3 ⟨rfl, rfl⟩; rw [Int.toNat_natCast]
            generalize hg2 : 2 ^ y = P at hp HNX
            have HG := Lib.hid hg2
            clear hg2
            go_wp2
            go_round
            case rel =>
              exact ⟨y + 1, i + 1, M + P, by omega, by omega, by go_num, by go_num, by have := Nat.mod_le S (2 ^ (y + 1)); have := HNX.out; omega, HNX.out.symm, HYL⟩
            case measure => simp [intOf]; omega
          · have : i = l := by omega
            subst this
            have hSY : M = S := by rw [HM.out, ← mod_eq (S := S) (a := Y) (b := N) (HY.out.trans HL.out.symm), HS.out]
            clear HM hML
            subst hSY
            go_wp2_with fail
            refine (lascends_tones _ N _ _ _ R3.out).mono ?_; rintro e w2 ⟨rfl, hb⟩
            replace HB := Lib.hid (HB.out.trans (hb.mono HB.out.size))
            clear hb
            go_wp2_with fail
            go_ret
            exact ⟨rfl, HB.out⟩
    · skip
      go_wp2_with fail
      refine (iTonesOf_no _ _ _ hv).mono ?_; rintro e w2 ⟨v1, rfl, hr, hb⟩
      have R1 := Lib.hid hr
      clear hr
      replace HB := Lib.hid (HB.out.trans (hb.mono HB.out.size))
      clear hb
      go_wp2_with fail
      refine (sTonesOf_no _ _ _ hv).mono ?_; rintro e w2 ⟨v2, rfl, hr, hb⟩
      have R2 := Lib.hid hr
      replace R1 := Lib.hid (R1.out.kept hb)
      replace HB := Lib.hid (HB.out.trans (hb.mono HB.out.size))
      clear hb hr
      go_wp2_with fail
      refine (equalInts_yes _ _ _ _ _ _ R1.out R2.out).mono ?_; rintro e w2 ⟨rfl, hb⟩
      replace R1 := Lib.hid (R1.out.kept hb)
      replace HB := Lib.hid (HB.out.trans (hb.mono HB.out.size))
      clear hb
      go_wp2_with fail
      refine (implValid_no _ _ _ hv).mono ?_; rintro e w2 ⟨rfl, rfl⟩
      go_wp2_with fail
      refine (sTonesOf_no _ _ _ hv).mono ?_; rintro e w2 ⟨v3, rfl, hr, hb⟩
      have R3 := Lib.hid hr
      replace R1 := Lib.hid (R1.out.kept hb)
      replace HB := Lib.hid (HB.out.trans (hb.mono HB.out.size))
      clear hb hr
      go_wp2_with fail
      refine (equalInts_yes _ _ _ _ _ _ R1.out R3.out).mono ?_; rintro e w2 ⟨rfl, hb⟩
      replace HB := Lib.hid (HB.out.trans (hb.mono HB.out.size))
      clear hb
      go_wp2_with fail
      go_ret
      exact ⟨rfl, HB.out⟩
end Go.Proofs.Ytchaeiecohldkaa
