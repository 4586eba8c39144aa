/-
  The walks of the laws of valid sets, shifts and turns.
-/
import Derived.Test.YtjppinifaiebdaaLawLow
namespace Go.Proofs.Ytjppinifaiebdaa
open Go.RowKit
set_option linter.unusedVariables false

theorem Tic.oth_int {n s : Int} (h : Tic.Valid n s) : ((2 ^ n.toNat : Nat) : Int) - 1 - s = (Tic.oth n.toNat s.toNat : Int) := by
  have h1 := h.lt_pow
  have h2 := h.2.2.1
  have h3 : Tic.oth n.toNat s.toNat = 2 ^ n.toNat - 1 - s.toNat := rfl
  omega
theorem Tic.valid_oth {n s : Int} (h : Tic.Valid n s) : Tic.Valid n (((2 ^ n.toNat : Nat) : Int) - 1 - s) := by
  rw [Tic.oth_int h]
  exact ⟨h.1, h.2.1, Int.natCast_nonneg _, Int.ofNat_lt.2 Tic.oth_lt⟩
theorem and_oth {n s : Int} (h : Tic.Valid n s) : bits .and .i64 (((2 ^ n.toNat : Nat) : Int) - 1 - s) s = 0 := by
  have h1 := (Tic.valid_oth h).lt
  have h2 := h.nat
  have e := h.cast
  rw [Tic.oth_int h] at h1 ⊢
  have := i64_and_nat (Tic.oth n.toNat s.toNat) s.toNat (by omega) (by omega)
  rw [← e, Tic.oth_and h.lt_pow] at this
  exact this

set_option maxRecDepth 20000 in
set_option maxHeartbeats 1000000 in
theorem FnShiftSet_walk (x : Option Addr) (len cap : Nat) (w : World) (h : Code w x len cap) :
    Calls Try.prog 3 #[.slice x len cap] w fun e w' => e = .returned (.bool true) ∧ Below w.heap.size w w' := by
  by_cases hl : 1048576 < len
  · go_enter Try.func3, Try.ntmps3
    go_wp2_with fail
    go_ret
    exact ⟨rfl, Below.refl _ _⟩
  · go_enter Try.func3, Try.ntmps3
    go_wp2_with fail
    refine (drawShiftSet _ _ _ _ h).mono ?_; rintro e w1 ⟨n, s, t, rfl, n0, n1, s0, s1, t0, t1, hb⟩
    have HB := Lib.hid hb
    clear hb h hl
    by_cases hv : Tic.Valid n s ∧ Tic.Turn t
    · obtain ⟨hv, ht⟩ := hv
      have hN := hv.1
      have hN2 := hv.2.1
      have hs := hv.lt_pow
      have e0 : s = (s.toNat : Int) := hv.cast
      have htn : Tic.Turn (-t) := ⟨by have := ht.2; omega, by have := ht.1; omega⟩
      have htn2 : Tic.Turn n := ⟨by omega, by omega⟩
      have E1 : Hid ((Tic.shf n.toNat (-t) (Tic.shf n.toNat t s.toNat) : Int) = s) := by
        show _ = _
        rw [Tic.shf_back (by omega) hs]; exact e0.symm
      have E2 : Hid ((Tic.shf n.toNat n s.toNat : Int) = s) := by
        show _ = _
        have := Tic.shf_n (n := n.toNat) (by omega) hs
        rw [Int.toNat_of_nonneg (by omega)] at this
        rw [this]; exact e0.symm
      have E3 := Lib.hid (Tic.wt_shf (n := n.toNat) (by omega) (by omega) hs t)
      have E4 := Lib.hid (Tic.gaps_shf (n := n.toNat) (by omega) (by omega) t s.toNat)
      have hvs := Tic.valid_shf hv t
      have HT := Lib.hid (Int.toNat_natCast (Tic.shf n.toNat t s.toNat))
      have hq := hvs.lt
      have hq0 := hvs.2.2.1
      have hs0 := hv.2.2.1
      have hs4 := hv.lt
      clear e0
      generalize hg : Tic.shf n.toNat t s.toNat = q at E1 E3 E4 hvs HT hq hq0
      have HQ := Lib.hid hg
      clear hg
      go_wp2_with fail
      refine (iShiftSet_yes _ _ _ _ hv ht).mono ?_; rintro e w2 ⟨rfl, hb⟩; rw [HQ.out]
      replace HB := Lib.hid (HB.out.trans (hb.mono HB.out.size))
      clear hb
      go_wp2_with fail
      refine (sShiftSet_yes _ _ _ _ hv ht).mono ?_; rintro e w2 ⟨rfl, rfl⟩; rw [HQ.out]
      go_wp2_with fail
      refine (iShiftSet_yes _ _ _ _ hvs htn).mono ?_; rintro e w2 ⟨rfl, hb⟩; rw [HT.out, E1.out]
      replace HB := Lib.hid (HB.out.trans (hb.mono HB.out.size))
      clear hb
      go_wp2_with fail
      refine (lweight_any _ _ hq0 hq).mono ?_; rintro e w2 ⟨rfl, rfl⟩; rw [HT.out, E3.out]
      go_wp2_with fail
      refine (lweight_any _ _ hs0 hs4).mono ?_; rintro e w2 ⟨rfl, rfl⟩
      go_wp2_with fail
      refine (iShiftSet_yes _ _ _ _ hv htn2).mono ?_; rintro e w2 ⟨rfl, hb⟩; rw [E2.out]
      replace HB := Lib.hid (HB.out.trans (hb.mono HB.out.size))
      clear hb
      go_wp2_with fail
      refine (iGapsOf_yes _ _ _ hvs).mono ?_; rintro e w2 ⟨v1, rfl, hr, hb⟩
      rw [HT.out] at hr
      have R1 := Lib.hid hr
      replace HB := Lib.hid (HB.out.trans (hb.mono HB.out.size))
      clear hb hr
      go_wp2_with fail
      refine (iGapsOf_yes _ _ _ hv).mono ?_; rintro e w2 ⟨v2, rfl, hr, hb⟩
      rw [← E4.out] at hr
      have R2 := Lib.hid hr
      replace R1 := Lib.hid (R1.out.kept hb)
      replace HB := Lib.hid (HB.out.trans (hb.mono HB.out.size))
      clear hb hr
      go_wp2_with fail
      refine (equalInts_yes _ _ _ _ _ _ R1.out R2.out).mono ?_; rintro e w2 ⟨rfl, hb⟩
      replace HB := Lib.hid (HB.out.trans (hb.mono HB.out.size))
      clear hb
      go_wp2_with fail
      go_ret
      exact ⟨rfl, HB.out⟩
    · skip
      go_wp2_with fail
      refine (iShiftSet_no _ _ _ _ hv).mono ?_; rintro e w2 ⟨rfl, rfl⟩
      go_wp2_with fail
      refine (sShiftSet_no _ _ _ _ hv).mono ?_; rintro e w2 ⟨rfl, rfl⟩
      go_wp2_with fail
      refine (sShiftSet_no _ _ _ _ hv).mono ?_; rintro e w2 ⟨rfl, rfl⟩
      go_wp2_with fail
      go_ret
      exact ⟨rfl, HB.out⟩
set_option maxRecDepth 20000 in
set_option maxHeartbeats 1000000 in
theorem FnTurnSet_walk (x : Option Addr) (len cap : Nat) (w : World) (h : Code w x len cap) :
    Calls Try.prog 4 #[.slice x len cap] w fun e w' => e = .returned (.bool true) ∧ Below w.heap.size w w' := by
  by_cases hl : 1048576 < len
  · go_enter Try.func4, Try.ntmps4
    go_wp2_with fail
    go_ret
    exact ⟨rfl, Below.refl _ _⟩
  · go_enter Try.func4, Try.ntmps4
    go_wp2_with fail
    refine (drawTurnSet _ _ _ _ h).mono ?_; rintro e w1 ⟨n, s, t, rfl, n0, n1, s0, s1, t0, t1, hb⟩
    have HB := Lib.hid hb
    clear hb h hl
    by_cases hv : Tic.Valid n s ∧ Tic.Turn t
    · obtain ⟨hv, ht⟩ := hv
      have hN := hv.1
      have hN2 := hv.2.1
      have hs := hv.lt_pow
      have e0 : s = (s.toNat : Int) := hv.cast
      have ht0 : Tic.Turn 0 := ⟨by omega, by omega⟩
      have E1 : Hid ((Tic.tur n.toNat t (Tic.tur n.toNat t s.toNat) : Int) = s) := by
        show _ = _
        rw [Tic.tur_back (by omega) hs]; exact e0.symm
      have E2 := Lib.hid (Tic.shf_tur0 (n := n.toNat) (by omega) t s.toNat)
      have E4 := Lib.hid (Tic.gaps_tur (n := n.toNat) (by omega) (by omega) t s.toNat)
      have hvs := Tic.valid_tur hv t
      have hvz := Tic.valid_tur hv 0
      have HZ := Lib.hid (Int.toNat_natCast (Tic.tur n.toNat 0 s.toNat))
      have HT := Lib.hid (Int.toNat_natCast (Tic.tur n.toNat t s.toNat))
      have hq := hvs.lt
      have hq0 := hvs.2.2.1
      have hs0 := hv.2.2.1
      have hs4 := hv.lt
      clear e0
      generalize hg : Tic.tur n.toNat t s.toNat = q at E1 E2 E4 hvs HT hq hq0
      have HQ := Lib.hid hg
      clear hg
      go_wp2_with fail
      refine (iTurnSet_yes _ _ _ _ hv ht).mono ?_; rintro e w2 ⟨rfl, hb⟩; rw [HQ.out]
      replace HB := Lib.hid (HB.out.trans (hb.mono HB.out.size))
      clear hb
      go_wp2_with fail
      refine (sTurnSet_yes _ _ _ _ hv ht).mono ?_; rintro e w2 ⟨rfl, rfl⟩; rw [HQ.out]
      go_wp2_with fail
      refine (iTurnSet_yes _ _ _ _ hvs ht).mono ?_; rintro e w2 ⟨rfl, hb⟩; rw [HT.out, E1.out]
      replace HB := Lib.hid (HB.out.trans (hb.mono HB.out.size))
      clear hb
      go_wp2_with fail
      refine (iTurnSet_yes _ _ _ _ hv ht0).mono ?_; rintro e w2 ⟨rfl, hb⟩
      replace HB := Lib.hid (HB.out.trans (hb.mono HB.out.size))
      clear hb
      go_wp2_with fail
      refine (iShiftSet_yes _ _ _ _ hvz ht).mono ?_; rintro e w2 ⟨rfl, hb⟩; rw [HZ.out, E2.out]
      replace HB := Lib.hid (HB.out.trans (hb.mono HB.out.size))
      clear hb
      go_wp2_with fail
      refine (iGapsOf_yes _ _ _ hvs).mono ?_; rintro e w2 ⟨v1, rfl, hr, hb⟩
      rw [HT.out] at hr
      have R1 := Lib.hid hr
      replace HB := Lib.hid (HB.out.trans (hb.mono HB.out.size))
      clear hb hr
      go_wp2_with fail
      refine (iGapsOf_yes _ _ _ hv).mono ?_; rintro e w2 ⟨v2, rfl, hr, hb⟩
      rw [← E4.out] at hr
      have R2 := Lib.hid hr
      replace R1 := Lib.hid (R1.out.kept hb)
      replace HB := Lib.hid (HB.out.trans (hb.mono HB.out.size))
      clear hb hr
      go_wp2_with fail
      refine (equalInts_yes _ _ _ _ _ _ R1.out R2.out).mono ?_; rintro e w2 ⟨rfl, hb⟩
      replace HB := Lib.hid (HB.out.trans (hb.mono HB.out.size))
      clear hb
      go_wp2_with fail
      go_ret
      exact ⟨rfl, HB.out⟩
    · skip
      go_wp2_with fail
      refine (iTurnSet_no _ _ _ _ hv).mono ?_; rintro e w2 ⟨rfl, rfl⟩
      go_wp2_with fail
      refine (sTurnSet_no _ _ _ _ hv).mono ?_; rintro e w2 ⟨rfl, rfl⟩
      go_wp2_with fail
      refine (sTurnSet_no _ _ _ _ hv).mono ?_; rintro e w2 ⟨rfl, rfl⟩
      go_wp2_with fail
      go_ret
      exact ⟨rfl, HB.out⟩
end Go.Proofs.Ytjppinifaiebdaa
