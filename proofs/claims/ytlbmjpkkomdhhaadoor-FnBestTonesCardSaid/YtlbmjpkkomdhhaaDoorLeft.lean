/-
  Contracts of LeftOf, of the program and of the model; ratios compared.
-/
import Derived.Test.YtlbmjpkkomdhhaaDoorLeftNum
import Derived.Test.YtlbmjpkkomdhhaaDoorSteps
import Derived.Test.YtlbmjpkkomdhhaaDoorOver
namespace Go.Proofs.YtlbmjpkkomdhhaaDoor
open Go.RowKit
set_option linter.unusedVariables false
set_option maxRecDepth 20000

theorem pow_fits {p n : Nat} (hp : p = 2 ∧ n ≤ 28 ∨ p = 3 ∧ n ≤ 12) : Fits (p ^ n) := by
  unfold Fits
  rcases hp with ⟨rfl, h⟩ | ⟨rfl, h⟩
  · exact Nat.lt_of_le_of_lt (Nat.pow_le_pow_right (by decide) h) (by decide)
  · exact Nat.lt_of_le_of_lt (Nat.pow_le_pow_right (by decide) h) (by decide)
set_option maxHeartbeats 400000 in
theorem sleftOf_any (n : Nat) (w : World) (h1 : 1 ≤ n) (h2 : n ≤ 12) :
    Calls Tryd.prog 62 #[.int .i64 n] w fun e w' => e = .returned (.tuple #[.int .i64 (Tic.lfU n : Int), .int .i64 (Tic.lfD n : Int)]) ∧ w = w' := by
  have hs := Tic.stp3_le h2
  have HA := Lib.hid (fun w => times_any 3 (n : Int) w (by decide) (by decide) (by omega) (by rw [Int.toNat_natCast]; exact pow_fits (.inr ⟨rfl, h2⟩)))
  have HS := Lib.hid (fun w => sstepsFor_any n 3 w (.inl rfl) h1 h2)
  have HB := Lib.hid (fun w => times_any 2 (Tic.stp 3 n : Int) w (by decide) (by decide) (by omega) (by rw [Int.toNat_natCast]; exact pow_fits (.inl ⟨rfl, by omega⟩)))
  rw [Int.toNat_natCast] at HA HB
  have HE : Hid (Tic.lfU n = max (3 ^ n) (2 ^ Tic.stp 3 n) ∧ Tic.lfD n = min (3 ^ n) (2 ^ Tic.stp 3 n)) := ⟨rfl, rfl⟩
  have hb := Tic.left_bd h2
  generalize Tic.stp 3 n = t at *
  generalize 3 ^ n = x at *
  generalize 2 ^ t = y at *
  generalize Tic.lfU n = u at *
  generalize Tic.lfD n = d at *
  obtain ⟨b1, b2⟩ := hb
  go_enter Tryd.func62, Tryd.ntmps62
  go_wp2_with fail
  refine (HA.out _).mono ?_; rintro e w1 ⟨rfl, rfl⟩
  go_wp2_with fail
  refine (HS.out _).mono ?_; rintro e w1 ⟨rfl, rfl⟩
  go_wp2_with fail
  refine (HB.out _).mono ?_; rintro e w1 ⟨rfl, rfl⟩
  go_wp2
  go_ret2
  obtain ⟨e1, e2⟩ := HE.out
  have i1 : max (x : Int) y = u := by omega
  have i2 : min (x : Int) y = d := by omega
  exact ⟨by show Ending.returned (.tuple #[.int .i64 (max (x : Int) y), .int .i64 (min (x : Int) y)]) = _; rw [i1, i2], rfl⟩
/-- what LeftOf tells -/
def leftV (n : Int) : Value := if 1 ≤ n ∧ n ≤ 12 then .tuple #[.int .i64 (Tic.lfU n.toNat : Int), .int .i64 (Tic.lfD n.toNat : Int)] else .tuple #[.int .i64 0, .int .i64 0]
theorem leftV_yes {n : Nat} (h1 : 1 ≤ n) (h2 : n ≤ 12) : leftV n = .tuple #[.int .i64 (Tic.lfU n : Int), .int .i64 (Tic.lfD n : Int)] := by unfold leftV; rw [if_pos (by omega)]; rfl
theorem leftV_no {n : Int} (h : n < 1 ∨ 12 < n) : leftV n = .tuple #[.int .i64 0, .int .i64 0] := by unfold leftV; rw [if_neg (by omega)]
theorem sLeftOf_any (n : Int) (w : World) :
    Calls Tryd.prog 28 #[.int .i64 n] w fun e w' => e = .returned (leftV n) ∧ w = w' := by
  by_cases hn : 1 ≤ n ∧ n ≤ 12
  · obtain ⟨h1, h2⟩ := hn
    obtain ⟨N, rfl⟩ := Int.eq_ofNat_of_zero_le (show 0 ≤ n by omega)
    have HC := Lib.hid (fun w => sleftOf_any N w (by omega) (by omega))
    rw [leftV_yes (by omega) (by omega)]
    generalize Tic.lfU N = x at HC ⊢
    generalize Tic.lfD N = y at HC ⊢
    go_enter Tryd.func28, Tryd.ntmps28
    go_wp2_with fail
    refine (inRange_yes _ _ _ _ h1 h2).mono ?_; rintro e w' ⟨rfl, rfl⟩
    go_wp2_with fail
    refine (HC.out _).mono ?_; rintro e w' ⟨rfl, rfl⟩
    go_wp2
    go_ret2
    exact ⟨rfl, rfl⟩
  · have h : n < 1 ∨ 12 < n := by omega
    rw [leftV_no h]
    clear hn
    go_enter Tryd.func28, Tryd.ntmps28
    go_wp2_with fail
    refine (inRange_no _ _ _ _ h).mono ?_; rintro e w' ⟨rfl, rfl⟩
    go_wp2
    go_ret2
    exact ⟨rfl, rfl⟩
/-- what is left, as the program holds it -/
def lfV (n : Nat) : Value := rtV (Tic.lfA n) (Tic.lfB n) 0 (Tic.lfU n) (Tic.lfD n)
set_option maxHeartbeats 800000 in
theorem leftOver_any (n : Nat) (w : World) (hl : Primes w) (h1 : 1 ≤ n) (h2 : n ≤ 12) :
    Calls Tryd.prog 61 #[.int .i64 n] w fun e w' => e = .returned (lfV n) ∧ Below w.heap.size w w' := by
  have hs := Tic.stp3_le h2
  obtain ⟨r1, r2, r3, r4⟩ := Tic.rup_left (Tic.stp 3 n) n
  have f1 : Fits (3 ^ n) := pow_fits (.inr ⟨rfl, h2⟩)
  have f2 : Fits (2 ^ Tic.stp 3 n) := pow_fits (.inl ⟨rfl, by omega⟩)
  have HS := Lib.hid (fun w => nearestSteps_any n 3 w (.inl rfl) h1 h2)
  have HR1 := Lib.hid (fun w hw => ratio_any (-(Tic.stp 3 n : Int)) n 0 w hw ⟨by omega, by omega, by omega, by omega, by omega, by omega, by rw [r1]; exact f1, by rw [r2]; exact f2⟩)
  have HR2 := Lib.hid (fun w hw => ratio_any (Tic.stp 3 n : Int) (-(n : Int)) 0 w hw ⟨by omega, by omega, by omega, by omega, by omega, by omega, by rw [r3]; exact f2, by rw [r4]; exact f1⟩)
  rw [r1, r2] at HR1
  rw [r3, r4] at HR2
  have HO := Lib.hid (fun w => over_any 0 0 0 (-(Tic.stp 3 n : Int)) n 0 w ⟨by omega, by omega, by omega, by omega, by omega, by omega⟩ ⟨by omega, by omega, by omega, by omega, by omega, by omega⟩)
  rw [show (0 : Int) - -(Tic.stp 3 n : Int) = Tic.stp 3 n by omega, show (0 : Int) - (n : Int) = -(n : Int) by omega, show (0 : Int) - 0 = 0 by omega] at HO
  have HV : Hid (lfV n = if 3 ^ n < 2 ^ Tic.stp 3 n then rtV (Tic.stp 3 n) (-(n : Int)) 0 (2 ^ Tic.stp 3 n) (3 ^ n) else rtV (-(Tic.stp 3 n : Int)) n 0 (3 ^ n) (2 ^ Tic.stp 3 n)) := Lib.hid (by
    unfold lfV Tic.lfA Tic.lfB Tic.lfU Tic.lfD
    by_cases h : 3 ^ n < 2 ^ Tic.stp 3 n
    · rw [if_pos h, if_pos h, if_pos h, Nat.max_eq_right (by omega), Nat.min_eq_left (by omega)]
    · rw [if_neg h, if_neg h, if_neg h, Nat.max_eq_left (by omega), Nat.min_eq_right (by omega)])
  clear r1 r2 r3 r4
  unfold Fits at f1 f2
  generalize Tic.stp 3 n = t at *
  generalize 3 ^ n = x at *
  generalize 2 ^ t = y at *
  generalize hlv : lfV n = LV at HV ⊢
  unfold rtV pwV at HR1 HR2
  unfold rtV at HV
  unfold pwV at HO
  clear hlv
  have HPn := Lib.hid (fun (W : World) hW => Primes.kept (w := w) (w' := W) hl hW)
  have R0 := Lib.hid (Rt.new w 0 0 0 0 0 56)
  have HB0 := Lib.hid ((Below.refl w.heap.size w).alloc (Nat.le_refl _) (.cells #[.int .i64 0, .int .i64 0, .int .i64 0, .int .i64 0, .int .i64 0] 56))
  have hz : (w.alloc (.cells #[.int .i64 0, .int .i64 0, .int .i64 0, .int .i64 0, .int .i64 0] 56)).heap.size = w.heap.size + 1 := by simp
  have hwt := IntWalk.i64_in (-(t : Int)) (by omega)
  go_enter Tryd.func61, Tryd.ntmps61
  go_wp2_with fail
  generalize w.alloc (.cells #[.int .i64 0, .int .i64 0, .int .i64 0, .int .i64 0, .int .i64 0] 56) = W at *
  refine (HS.out _).mono ?_; rintro e w1 ⟨rfl, rfl⟩
  go_wp2_with fail
  refine (HR1.out _ (HPn.out _ HB0.out)).mono ?_; rintro e w2 ⟨rfl, hb⟩
  have hk2 := (Below.refl w2.heap.size w2).alloc (Nat.le_refl _) (.cells #[.int .i64 (-(t : Int)), .int .i64 (n : Int), .int .i64 0, .int .i64 (x : Int), .int .i64 (y : Int)] 56)
  have HB := Lib.hid ((HB0.out.trans (hb.mono (by omega))).trans (hk2.mono (by have := hb.size; omega)))
  have HR := Lib.hid ((R0.out.kept hb (by omega)).kept hk2 (by have := hb.size; omega))
  have HX := Lib.hid (Rt.new w2 (-(t : Int)) n 0 x y 56)
  have hgg : w.heap.size + 1 ≤ w2.heap.size := by have := hb.size; omega
  have hz2 : (w2.alloc (.cells #[.int .i64 (-(t : Int)), .int .i64 (n : Int), .int .i64 0, .int .i64 (x : Int), .int .i64 (y : Int)] 56)).heap.size = w2.heap.size + 1 := by simp
  obtain ⟨d0, d1, d2, d3, d4, _⟩ := HX.out
  clear hb R0 HB0 hk2
  by_cases hlt : x < y
  · rw [if_pos hlt] at HV
    go_wp2_with fail
    generalize w2.alloc (.cells #[.int .i64 (-(t : Int)), .int .i64 (n : Int), .int .i64 0, .int .i64 (x : Int), .int .i64 (y : Int)] 56) = V at *
    refine (HO.out _).mono ?_; rintro e w3 ⟨rfl, hb⟩
    have HB3 := Lib.hid (HB.out.trans (hb.mono HB.out.size))
    have HR3 := Lib.hid (HR.out.kept hb HR.out.lt)
    clear hb HB HR HX d0 d1 d2 d3 d4
    go_wp2_with fail
    refine (HR2.out _ (HPn.out _ HB3.out)).mono ?_; rintro e w4 ⟨rfl, hb⟩
    have HB4 := Lib.hid (HB3.out.trans (hb.mono HB3.out.size))
    have HR4 := Lib.hid (HR3.out.kept hb HR3.out.lt)
    clear hb HB3 HR3
    obtain ⟨r0, r1, r2, r3, r4, f0, f1, f2, f3, f4⟩ := HR4.out
    go_wp2
    obtain ⟨y0, y1, y2, y3, y4, _⟩ := five_back (a' := (t : Int)) (b' := -(n : Int)) (c' := 0) (x' := (y : Int)) (y' := (x : Int)) HR4.out
    refine bodyPost_ret (v := .agg #[.int .i64 (t : Int), .int .i64 (-(n : Int)), .int .i64 0, .int .i64 y, .int .i64 x]) (by simp [results, Tryd.results61, go_sem, y0, y1, y2, y3, y4]) rfl ⟨by rw [HV.out], ?_⟩
    exact ((((HB4.out.setCell (by simp) _).setCell (by simp) _).setCell (by simp) _).setCell (by simp) _).setCell (by simp) _
  · rw [if_neg hlt] at HV
    obtain ⟨r0, r1, r2, r3, r4, f0, f1, f2, f3, f4⟩ := HR.out
    go_wp2
    obtain ⟨y0, y1, y2, y3, y4, _⟩ := five_back (a' := -(t : Int)) (b' := (n : Int)) (c' := 0) (x' := (x : Int)) (y' := (y : Int)) HR.out
    refine bodyPost_ret (v := .agg #[.int .i64 (-(t : Int)), .int .i64 (n : Int), .int .i64 0, .int .i64 x, .int .i64 y]) (by simp [results, Tryd.results61, go_sem, y0, y1, y2, y3, y4]) rfl ⟨by rw [HV.out], ?_⟩
    exact ((((HB.out.setCell (by simp) _).setCell (by simp) _).setCell (by simp) _).setCell (by simp) _).setCell (by simp) _
theorem iLeftOf_any (n : Int) (w : World) (hp : Primes w) :
    Calls Tryd.prog 27 #[.int .i64 n] w fun e w' => e = .returned (leftV n) ∧ Below w.heap.size w w' := by
  by_cases hn : 1 ≤ n ∧ n ≤ 12
  · obtain ⟨h1, h2⟩ := hn
    obtain ⟨N, rfl⟩ := Int.eq_ofNat_of_zero_le (show 0 ≤ n by omega)
    have HC := Lib.hid (leftOver_any N w hp (by omega) (by omega))
    rw [leftV_yes (by omega) (by omega)]
    unfold lfV rtV at HC
    generalize Tic.lfU N = x at HC ⊢
    generalize Tic.lfD N = y at HC ⊢
    generalize Tic.lfA N = a at HC
    generalize Tic.lfB N = b at HC
    go_enter Tryd.func27, Tryd.ntmps27
    go_wp2_with fail
    refine (parts_yes _ _ h1 h2).mono ?_; rintro e w' ⟨rfl, rfl⟩
    go_wp2_with fail
    refine HC.out.mono ?_; rintro e w1 ⟨rfl, hb⟩
    have hB := hb.alloc hb.size (.cells #[.int .i64 a, .int .i64 b, .int .i64 0, .int .i64 (x : Int), .int .i64 (y : Int)] 56)
    obtain ⟨_, _, _, r3, r4, _⟩ := Rt.new w1 a b 0 x y 56
    clear hb
    go_wp2
    go_region
    all_goals
      go_wp2
      go_ret2
      exact ⟨rfl, hB.drew⟩
  · have h : n < 1 ∨ 12 < n := by omega
    rw [leftV_no h]
    clear hn
    go_enter Tryd.func27, Tryd.ntmps27
    go_wp2_with fail
    refine (parts_no _ _ h).mono ?_; rintro e w' ⟨rfl, rfl⟩
    go_wp2
    go_ret2
    exact ⟨rfl, Below.refl _ _⟩
/-- three-way comparison -/
def cmp3 (x y : Int) : Int := if x < y then -1 else if y < x then 1 else 0
theorem cmpInt_any (x y : Int) (w : World) :
    Calls Tryd.prog 73 #[.int .i64 x, .int .i64 y] w fun e w' => e = .returned (.int .i64 (cmp3 x y)) ∧ w = w' := by
  have HN : Hid (∀ (z : Int) w, Calls Tryd.prog 76 #[.int .i64 z] w fun e w' => e = .returned (.bool false) ∧ w = w') := Lib.hid (fun z w => by
    go_enter Tryd.func76, Tryd.ntmps76
    go_wp2
    go_ret
    exact ⟨ret_bool (by simp), rfl⟩)
  unfold cmp3
  rcases Int.lt_trichotomy x y with h | h | h
  · rw [if_pos h]
    go_enter Tryd.func73, Tryd.ntmps73
    go_wp2_with fail
    refine (HN.out _ _).mono ?_; rintro e w1 ⟨rfl, rfl⟩
    go_wp2_with fail
    refine (HN.out _ _).mono ?_; rintro e w1 ⟨rfl, rfl⟩
    go_wp2
    go_ret
    exact ⟨rfl, rfl⟩
  · subst h
    rw [if_neg (by omega), if_neg (by omega)]
    go_enter Tryd.func73, Tryd.ntmps73
    go_wp2_with fail
    refine (HN.out _ _).mono ?_; rintro e w1 ⟨rfl, rfl⟩
    go_wp2_with fail
    refine (HN.out _ _).mono ?_; rintro e w1 ⟨rfl, rfl⟩
    go_wp2
    go_ret
    exact ⟨rfl, rfl⟩
  · rw [if_neg (by omega), if_pos h]
    go_enter Tryd.func73, Tryd.ntmps73
    go_wp2_with fail
    refine (HN.out _ _).mono ?_; rintro e w1 ⟨rfl, rfl⟩
    go_wp2_with fail
    refine (HN.out _ _).mono ?_; rintro e w1 ⟨rfl, rfl⟩
    go_wp2
    go_ret
    exact ⟨rfl, rfl⟩
set_option maxHeartbeats 400000 in
theorem compare_any (a b c a' b' c' : Int) (x y x' y' : Nat) (w : World) (h1 : x * y' < 1152921504606846976) (h2 : x' * y < 1152921504606846976) :
    Calls Tryd.prog 63 #[rtV a b c x y, rtV a' b' c' x' y'] w fun e w' => e = .returned (.int .i64 (cmp3 (x * y' : Nat) (x' * y : Nat))) ∧ Below w.heap.size w w' := by
  unfold rtV
  have e1 : (x : Int) * (y' : Int) = ((x * y' : Nat) : Int) := (Int.natCast_mul _ _).symm
  have e2 : (x' : Int) * (y : Int) = ((x' * y : Nat) : Int) := (Int.natCast_mul _ _).symm
  generalize x * y' = p at *
  generalize x' * y = q at *
  have E1 := Lib.hid e1
  have E2 := Lib.hid e2
  have w1 := IntWalk.i64_in (p : Int) (by omega)
  have w2 := IntWalk.i64_in (q : Int) (by omega)
  have HC := Lib.hid (fun w => cmpInt_any p q w)
  generalize cmp3 p q = r at HC ⊢
  have hB1 := (Below.refl w.heap.size w).alloc (Nat.le_refl _) (.cells #[.int .i64 a, .int .i64 b, .int .i64 c, .int .i64 x, .int .i64 y] 56)
  have hB2 := (Below.refl _ (w.alloc (.cells #[.int .i64 a, .int .i64 b, .int .i64 c, .int .i64 x, .int .i64 y] 56))).alloc (Nat.le_refl _) (.cells #[.int .i64 a', .int .i64 b', .int .i64 c', .int .i64 x', .int .i64 y'] 56)
  have R1 := (Rt.new w a b c x y 56).kept hB2 (by simp)
  have R2 := Rt.new (w.alloc (.cells #[.int .i64 a, .int .i64 b, .int .i64 c, .int .i64 x, .int .i64 y] 56)) a' b' c' x' y' 56
  have HB := Lib.hid (hB1.trans (hB2.mono (by simp)))
  simp only [World.size_alloc] at R2
  obtain ⟨_, _, _, c3, c4, _⟩ := R1
  obtain ⟨_, _, _, d3, d4, _⟩ := R2
  clear hB1 hB2 e1 e2
  go_enter Tryd.func63, Tryd.ntmps63
  have e1 := E1.out
  have e2 := E2.out
  go_wp2_with fail
  clear e1 e2
  refine (HC.out _).mono ?_; rintro e w3 ⟨rfl, rfl⟩
  go_wp2
  go_ret
  exact ⟨rfl, HB.out⟩
end Go.Proofs.YtlbmjpkkomdhhaaDoor
