/-
  The walks of the laws of tones and of all gaps.
-/
import Derived.Test.YtjppinifaiebdaaLaws3
namespace Go.Proofs.Ytjppinifaiebdaa
open Go.RowKit
set_option linter.unusedVariables false

theorem ltotal_any (g m c : Nat) (C : Nat → Nat) (w : World) (hm : m ≤ 100) (hC : ∀ d, d < m → C d ≤ 1000) (hc : ∀ d, d < m → w.cell? ⟨g, d, none⟩ = some (.int .i64 (C d))) :
    Calls Try.prog 27 #[.slice (some ⟨g, 0, none⟩) m c] w fun e w' => e = .returned (.int .i64 (Tic.gsum C m : Int)) ∧ w = w' := by
  have HC := Lib.hid hC
  have HX := Lib.hid hc
  clear hC hc
  go_enter Try.func27, Try.ntmps27
  go_wp2
  go_loop [3, 4] (fun t3 t4 => ∃ k : Nat, k ≤ m ∧ t4 = .int .i64 k ∧ t3 = .int .i64 (Tic.gsum C k : Int) ∧ Hid (Tic.gsum C k ≤ k * 1000)) (fun _ t4 => m - (intOf t4).toNat)
  case atStart => exact ⟨0, Nat.zero_le _, rfl, rfl, Nat.le_refl _⟩
  case round =>
    obtain ⟨k, hk, rfl, rfl, HS⟩ := hrel
    have hb := HS.out
    by_cases hlt : k < m
    · have d1 := HX.out k hlt
      have d2 := HC.out k hlt
      have HN : Hid (Tic.gsum C (k + 1) = Tic.gsum C k + C k) := rfl
      go_wp2
      go_round
      case rel => exact ⟨k + 1, by omega, by go_num, congrArg (Value.int .i64) (by have := HN.out; omega), by have := HN.out; show Tic.gsum C (k + 1) ≤ (k + 1) * 1000; omega⟩
      case measure => simp [intOf]; omega
    · have : k = m := by omega
      subst this
      go_wp2
      go_ret
      exact ⟨rfl, rfl⟩

set_option maxRecDepth 20000 in
set_option maxHeartbeats 1000000 in
theorem FnGapsOf_walk (x : Option Addr) (len cap : Nat) (w : World) (h : Code w x len cap) :
    Calls Try.prog 6 #[.slice x len cap] w fun e w' => e = .returned (.bool true) ∧ Below w.heap.size w w' := by
  by_cases hl : 1048576 < len
  · go_enter Try.func6, Try.ntmps6
    go_wp2_with fail
    go_ret
    exact ⟨rfl, Below.refl _ _⟩
  · go_enter Try.func6, Try.ntmps6
    go_wp2_with fail
    refine (drawGapsOf _ _ _ _ h).mono ?_; rintro e w1 ⟨n, s, rfl, n0, n1, s0, s1, hb⟩
    have HB := Lib.hid hb
    clear hb h hl
    by_cases hv : Tic.Valid n s
    · have hN := hv.1
      have hN2 := hv.2.1
      have hs := hv.lt_pow
      have hs12 := hv.lt
      obtain ⟨N, rfl⟩ := Int.eq_ofNat_of_zero_le (show 0 ≤ n by omega)
      obtain ⟨S, rfl⟩ := Int.eq_ofNat_of_zero_le hv.2.2.1
      rw [Int.toNat_natCast, Int.toNat_natCast] at hs
      have ET := Tic.gaps_total hs (by omega)
      have hK := Tic.wt_le 12 S
      clear hs
      generalize hk : Tic.wt 12 S = K at ET hK
      generalize ht : Tic.gsum (Tic.gAll N S) (N / 2) = T at ET
      have hT : T ≤ 72 := by have : K * K ≤ 12 * 12 := Nat.mul_le_mul hK hK; omega
      have hk1 : (K : Int) * ((K : Int) - 1) = 2 * (T : Int) := by
        rw [Int.mul_sub, ← Int.natCast_mul]; omega
      have HK := Lib.hid hk
      have HT := Lib.hid ht
      clear hk ht ET
      go_wp2_with fail
      refine (iGapsOf_yes _ _ _ hv).mono ?_; rintro e w2 ⟨v1, rfl, hr, hb⟩
      rw [Int.toNat_natCast, Int.toNat_natCast] at hr
      have R1 := Lib.hid hr
      clear hr
      replace HB := Lib.hid (HB.out.trans (hb.mono HB.out.size))
      clear hb
      go_wp2_with fail
      refine (sGapsOf_yes _ _ _ hv).mono ?_; rintro e w2 ⟨v2, rfl, hr, hb⟩
      rw [Int.toNat_natCast, Int.toNat_natCast] at hr
      have R2 := Lib.hid hr
      replace R1 := Lib.hid (R1.out.kept hb)
      clear hr
      replace HB := Lib.hid (HB.out.trans (hb.mono HB.out.size))
      clear hb
      go_wp2_with fail
      refine (equalInts_yes _ _ _ _ _ _ R1.out R2.out).mono ?_; rintro e w2 ⟨rfl, hb⟩
      replace R1 := Lib.hid (R1.out.kept hb)
      replace HB := Lib.hid (HB.out.trans (hb.mono HB.out.size))
      clear hb
      go_wp2_with fail
      refine (implValid_yes _ _ _ hv).mono ?_; rintro e w2 ⟨rfl, rfl⟩
      go_wp2_with fail
      refine (lweight_any _ _ (by omega) (by omega)).mono ?_; rintro e w3 ⟨rfl, rfl⟩; rw [Int.toNat_natCast, HK.out]
      obtain ⟨g, c, rfl, hg, hc⟩ := gaps_row R1.out (by omega)
      have HC := Lib.hid hc
      clear hc
      go_wp2_with fail
      refine (ltotal_any _ _ _ (Tic.gAll N S) _ (by omega) (fun d hd => Tic.gS_le N S N 0 d (by omega) (by omega) (by omega)) HC.out).mono ?_; rintro e w3 ⟨rfl, rfl⟩; rw [HT.out]
      go_wp2_with fail
      go_ret
      exact ⟨rfl, HB.out⟩
    · skip
      go_wp2_with fail
      refine (iGapsOf_no _ _ _ hv).mono ?_; rintro e w2 ⟨v1, rfl, hr, hb⟩
      have R1 := Lib.hid hr
      clear hr
      replace HB := Lib.hid (HB.out.trans (hb.mono HB.out.size))
      clear hb
      go_wp2_with fail
      refine (sGapsOf_no _ _ _ hv).mono ?_; rintro e w2 ⟨v2, rfl, hr, hb⟩
      have R2 := Lib.hid hr
      replace R1 := Lib.hid (R1.out.kept hb)
      replace HB := Lib.hid (HB.out.trans (hb.mono HB.out.size))
      clear hb hr
      go_wp2_with fail
      refine (equalInts_yes _ _ _ _ _ _ R1.out R2.out).mono ?_; rintro e w2 ⟨rfl, hb⟩
      replace R1 := Lib.hid (R1.out.kept hb)
      replace HB := Lib.hid (HB.out.trans (hb.mono HB.out.size))
      clear hb
      go_wp2_with fail
      refine (implValid_no _ _ _ hv).mono ?_; rintro e w2 ⟨rfl, rfl⟩
      go_wp2_with fail
      refine (sGapsOf_no _ _ _ hv).mono ?_; rintro e w2 ⟨v3, rfl, hr, hb⟩
      have R3 := Lib.hid hr
      replace R1 := Lib.hid (R1.out.kept hb)
      replace HB := Lib.hid (HB.out.trans (hb.mono HB.out.size))
      clear hb hr
      go_wp2_with fail
      refine (equalInts_yes _ _ _ _ _ _ R1.out R3.out).mono ?_; rintro e w2 ⟨rfl, hb⟩
      replace HB := Lib.hid (HB.out.trans (hb.mono HB.out.size))
      clear hb
      go_wp2_with fail
      go_ret
      exact ⟨rfl, HB.out⟩

theorem mod_bit (S b : Nat) : S % 2 ^ (b + 1) = S % 2 ^ b + if S.testBit b then 2 ^ b else 0 := by
  rw [Nat.mod_pow_succ, Nat.testBit_eq_decide_div_mod_eq]
  rcases Nat.mod_two_eq_zero_or_one (S / 2 ^ b) with h | h <;> simp [h]
theorem mod_same (S a : Nat) : ∀ b, a ≤ b → (tonesTo S a).length = (tonesTo S b).length → S % 2 ^ b = S % 2 ^ a
  | 0, h, _ => by rw [Nat.le_zero.1 h]
  | b + 1, h, e => by
    by_cases e2 : a = b + 1
    · rw [e2]
    · have hm := tonesTo_mono S a b (by omega)
      cases hb : S.testBit b with
      | false =>
        rw [tonesTo_no hb] at e
        rw [mod_bit, hb, mod_same S a b (by omega) e]; simp
      | true => rw [tonesTo_yes hb] at e; simp at e; omega
theorem mod_eq {S a b : Nat} (e : (tonesTo S a).length = (tonesTo S b).length) : S % 2 ^ b = S % 2 ^ a := by
  rcases Nat.le_total a b with h | h
  · exact mod_same S a b h e
  · exact (mod_same S b a h e.symm).symm
theorem mod_next {S y : Nat} (h : S.testBit y = true) : S % 2 ^ (y + 1) = S % 2 ^ y + 2 ^ y := by rw [mod_bit, h]; simp


end Go.Proofs.Ytjppinifaiebdaa
