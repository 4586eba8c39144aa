/-
  Contracts of PeriodOf, IsLoose and IsOdd, of the program and of the model.
-/
import Derived.Test.YtgpbgbcdlebaiaaOnes
import Derived.Test.YtgpbgbcdlebaiaaSetEq
import Derived.Test.YtgpbgbcdlebaiaaShift
import Derived.Test.YtgpbgbcdlebaiaaTileNum
namespace Go.Proofs.Ytgpbgbcdlebaiaa
open Go.RowKit
set_option linter.unusedVariables false

theorem neq_set (a b c d : Int) (w : World) : (binOp .neq 45 (.agg #[.int .i64 a, .int .i64 b]) (.agg #[.int .i64 c, .int .i64 d])).run Try.prog w = .ok (.bool (!(a == c && b == d))) w := by
  rw [run_neq_struct, run_equalIn_struct w _ _ _ _ (by kernel_rfl) (by kernel_rfl), fieldsSet]
  simp [Op.eqFields, part]
  rw [run_equalIn_int w _ 3 .i64 .i64 a c Try.underlying3]
  by_cases h : a = c
  · subst h
    simp
    rw [run_equalIn_int w _ 3 .i64 .i64 b d Try.underlying3]
    by_cases h2 : b = d
    · subst h2; simp
    · simp [h2]
  · simp [h]
theorem turn_of {k : Nat} (h : k ≤ 12) : Tic.Turn (k : Int) := ⟨by omega, by omega⟩
/-- the shift by k leaves the set, or does not -/
theorem shf_beq (N S k : Nat) : ((((Tic.img (Tic.mvd N 1 k) S N : Nat) : Int) == (S : Int)) = true ∧ Tic.shf N k S = S) ∨ ((((Tic.img (Tic.mvd N 1 k) S N : Nat) : Int) == (S : Int)) = false ∧ Tic.shf N k S ≠ S) := by
  by_cases h : Tic.shf N k S = S
  · refine .inl ⟨?_, h⟩
    rw [show Tic.img (Tic.mvd N 1 k) S N = S from h]; simp
  · refine .inr ⟨?_, h⟩
    have : ((Tic.img (Tic.mvd N 1 k) S N : Nat) : Int) ≠ (S : Int) := fun e => h (Int.ofNat.inj e)
    simpa using this
theorem mperiod_any (n s : Int) (w : World) (hv : Tic.Valid n s) :
    Calls Try.prog 53 #[.agg #[.int .i64 n, .int .i64 s]] w fun e w' => e = .returned (.int .i64 (Tic.per n.toNat s.toNat : Int)) ∧ Below w.heap.size w w' := by
  have hlt := hv.lt
  have hs := hv.lt_pow
  have g1 := hv.1
  have g2 := hv.2.1
  obtain ⟨N, rfl⟩ := Int.eq_ofNat_of_zero_le (show 0 ≤ n by omega)
  obtain ⟨S, rfl⟩ := Int.eq_ofNat_of_zero_le hv.2.2.1
  simp only [Int.toNat_natCast] at hs ⊢
  have hneq := neq_set
  have hgu := eqGuard_set
  obtain ⟨p1, p2, p3, p4⟩ := Tic.per_spec (n := N) (by omega) hs
  have HP3 := Lib.hid p3
  have HP4 := Lib.hid p4
  generalize Tic.per N S = P at p1 p2 HP3 HP4 ⊢
  clear p3 p4 hs
  go_enter Try.func53, Try.ntmps53
  go_wp2
  go_loopw [3] (fun t3 wr => ∃ k : Nat, 1 ≤ k ∧ k ≤ P ∧ t3 = .int .i64 k ∧
      wr.cell? ⟨w.heap.size, 0, none⟩ = some (.int .i64 N) ∧ wr.cell? ⟨w.heap.size, 1, none⟩ = some (.int .i64 S) ∧
      w.heap.size < wr.heap.size ∧ Below w.heap.size w wr) (fun t3 _ => P - (intOf t3).toNat)
  case atStart =>
    refine ⟨1, Nat.le_refl _, p1, rfl, ?_, ?_, ?_, ?_⟩
    all_goals first | exact (Below.refl _ _).alloc (Nat.le_refl _) _ | go_simp
  case round =>
    obtain ⟨k, hk1, hk, rfl, a0, a1, hz, hbel⟩ := hrel
    have ht := turn_of (k := k) (by omega)
    have hk0 : Below wr.heap.size wr wr := Below.refl _ _
    have hz0 := hz
    rcases shf_beq N S k with ⟨E1, H1⟩ | ⟨E1, H1⟩
    · obtain rfl : k = P := by
        rcases Nat.lt_or_ge k P with h | h
        · exact absurd H1 (HP4.out k hk1 h)
        · omega
      clear H1
      go_wp2_with fail
      go_region_held3 (fun w' => w'.cell? ⟨w.heap.size, 0, none⟩ = some (.int .i64 N) ∧ w'.cell? ⟨w.heap.size, 1, none⟩ = some (.int .i64 S))
          (first | go_keep | (refine ⟨?_, ?_⟩ <;> ((refine (hk0.cell ?_).trans ?_) <;> assumption)))
          (first | (go_at_call 48; refine (mshift_any _ _ _ _ hv ht).mono ?_; rintro e w1 ⟨rfl, hb⟩; replace hk0 : Below wr.heap.size wr w1 := (by first | exact grow1 hk0 hb | exact grow0 hk0 hb); clear hb))
      have hb1 := hbel.trans (hk0.mono (by omega))
      go_wp2
      go_ret
      exact ⟨rfl, hb1⟩
    · have hlt : k < P := by
        rcases Nat.lt_or_ge k P with h | h
        · exact h
        · obtain rfl : k = P := by omega
          exact absurd HP3.out H1
      clear H1
      go_wp2_with fail
      go_region_held3 (fun w' => w'.cell? ⟨w.heap.size, 0, none⟩ = some (.int .i64 N) ∧ w'.cell? ⟨w.heap.size, 1, none⟩ = some (.int .i64 S))
          (first | go_keep | (refine ⟨?_, ?_⟩ <;> ((refine (hk0.cell ?_).trans ?_) <;> assumption)))
          (first | (go_at_call 48; refine (mshift_any _ _ _ _ hv ht).mono ?_; rintro e w1 ⟨rfl, hb⟩; replace hk0 : Below wr.heap.size wr w1 := (by first | exact grow1 hk0 hb | exact grow0 hk0 hb); clear hb))
      have d0 := (hk0.cell (p := ⟨w.heap.size, 0, none⟩) hz).trans a0
      have d1 := (hk0.cell (p := ⟨w.heap.size, 1, none⟩) hz).trans a1
      have hz1 := hk0.size
      have hb1 := hbel.trans (hk0.mono (by omega))
      clear a0 a1
      go_wp2
      go_roundw
      case rel => exact ⟨k + 1, by omega, by omega, by go_num, d0, d1, by omega, hb1⟩
      case measure => simp [intOf]; omega
theorem speriod_any (n s : Int) (w : World) (hv : Tic.Valid n s) :
    Calls Try.prog 54 #[.int .i64 n, .int .i64 s] w fun e w' => e = .returned (.int .i64 (Tic.per n.toNat s.toNat : Int)) ∧ w = w' := by
  have hlt := hv.lt
  have hs := hv.lt_pow
  have g1 := hv.1
  have g2 := hv.2.1
  obtain ⟨N, rfl⟩ := Int.eq_ofNat_of_zero_le (show 0 ≤ n by omega)
  obtain ⟨S, rfl⟩ := Int.eq_ofNat_of_zero_le hv.2.2.1
  simp only [Int.toNat_natCast] at hs ⊢
  obtain ⟨p1, p2, p3, p4⟩ := Tic.per_spec (n := N) (by omega) hs
  have HP3 := Lib.hid p3
  have HP4 := Lib.hid p4
  generalize Tic.per N S = P at p1 p2 HP3 HP4 ⊢
  clear p3 p4 hs
  go_enter Try.func54, Try.ntmps54
  go_wp2
  go_loop [5] (fun t5 => ∃ k : Nat, 1 ≤ k ∧ k ≤ P ∧ t5 = .int .i64 k) (fun t5 => P - (intOf t5).toNat)
  case atStart => exact ⟨1, Nat.le_refl _, p1, rfl⟩
  case round =>
    obtain ⟨k, hk1, hk, rfl⟩ := hrel
    have ht := turn_of (k := k) (by omega)
    by_cases H1 : Tic.shf N k S = S
    · obtain rfl : k = P := by
        rcases Nat.lt_or_ge k P with h | h
        · exact absurd H1 (HP4.out k hk1 h)
        · omega
      have HE := Lib.hid H1
      clear H1
      go_wp2_with fail
      refine (sshift_any _ _ _ _ hv ht).mono ?_; rintro e w1 ⟨rfl, rfl⟩
      rw [Int.toNat_natCast, Int.toNat_natCast, HE.out]
      go_wp2
      go_ret
      exact ⟨rfl, rfl⟩
    · have hlt : k < P := by
        rcases Nat.lt_or_ge k P with h | h
        · exact h
        · obtain rfl : k = P := by omega
          exact absurd HP3.out H1
      have HE := Lib.hid H1
      clear H1
      go_wp2_with fail
      refine (sshift_any _ _ _ _ hv ht).mono ?_; rintro e w1 ⟨rfl, rfl⟩
      rw [Int.toNat_natCast, Int.toNat_natCast]
      have hq : ¬ (((Tic.shf N k S : Nat) : Int) = (S : Int)) := fun e => HE.out (Int.ofNat.inj e)
      generalize ((Tic.shf N k S : Nat) : Int) = q at hq
      have hq2 : (q == (S : Int)) = false := beq_eq_false_iff_ne.2 hq
      have hq3 : (q != (S : Int)) = true := by simpa using hq
      clear hq
      go_wp2
      go_round
      case rel => exact ⟨k + 1, by omega, by omega, by go_num⟩
      case measure => simp [intOf]; omega
theorem iPeriodOf_yes (n s : Int) (w : World) (hv : Tic.Valid n s) :
    Calls Try.prog 14 #[.int .i64 n, .int .i64 s] w fun e w' => e = .returned (.int .i64 (Tic.per n.toNat s.toNat : Int)) ∧ Below w.heap.size w w' := by
  go_enter Try.func14, Try.ntmps14
  go_wp2_with fail
  refine (implValid_yes _ _ _ hv).mono ?_; rintro e w1 ⟨rfl, rfl⟩
  go_wp2_with fail
  refine (mperiod_any _ _ _ hv).mono ?_; rintro e w1 ⟨rfl, hb⟩
  go_wp2_with fail
  go_ret
  exact ⟨rfl, hb⟩
theorem iPeriodOf_no (n s : Int) (w : World) (hv : ¬ Tic.Valid n s) :
    Calls Try.prog 14 #[.int .i64 n, .int .i64 s] w fun e w' => e = .returned (.int .i64 (-1)) ∧ w = w' := by
  go_enter Try.func14, Try.ntmps14
  go_wp2_with fail
  refine (implValid_no _ _ _ hv).mono ?_; rintro e w1 ⟨rfl, rfl⟩
  go_wp2_with fail
  go_ret
  exact ⟨rfl, rfl⟩
theorem sPeriodOf_yes (n s : Int) (w : World) (hv : Tic.Valid n s) :
    Calls Try.prog 16 #[.int .i64 n, .int .i64 s] w fun e w' => e = .returned (.int .i64 (Tic.per n.toNat s.toNat : Int)) ∧ w = w' := by
  go_enter Try.func16, Try.ntmps16
  go_wp2_with fail
  refine (validSet_yes _ _ _ hv).mono ?_; rintro e w1 ⟨rfl, rfl⟩
  go_wp2_with fail
  refine (speriod_any _ _ _ hv).mono ?_; rintro e w1 ⟨rfl, rfl⟩
  go_wp2_with fail
  go_ret
  exact ⟨rfl, rfl⟩
theorem sPeriodOf_no (n s : Int) (w : World) (hv : ¬ Tic.Valid n s) :
    Calls Try.prog 16 #[.int .i64 n, .int .i64 s] w fun e w' => e = .returned (.int .i64 (-1)) ∧ w = w' := by
  go_enter Try.func16, Try.ntmps16
  go_wp2_with fail
  refine (validSet_no _ _ _ hv).mono ?_; rintro e w1 ⟨rfl, rfl⟩
  go_wp2_with fail
  go_ret
  exact ⟨rfl, rfl⟩
theorem iIsLoose_yes (n s : Int) (w : World) (hv : Tic.Valid n s) :
    Calls Try.prog 19 #[.int .i64 n, .int .i64 s] w fun e w' => e = .returned (.bool (decide ((Tic.per n.toNat s.toNat : Int) < n))) ∧ Below w.heap.size w w' := by
  go_enter Try.func19, Try.ntmps19
  go_wp2_with fail
  refine (implValid_yes _ _ _ hv).mono ?_; rintro e w1 ⟨rfl, rfl⟩
  go_wp2_with fail
  refine (mperiod_any _ _ _ hv).mono ?_; rintro e w1 ⟨rfl, hb⟩
  have HB := Lib.hid hb
  clear hb
  by_cases h : (Tic.per n.toNat s.toNat : Int) < n
  · go_wp2_with fail
    go_ret
    exact ⟨ret_bool (by simp [h]), HB.out⟩
  · go_wp2_with fail
    go_ret
    exact ⟨ret_bool (by simp), HB.out⟩
theorem iIsLoose_no (n s : Int) (w : World) (hv : ¬ Tic.Valid n s) :
    Calls Try.prog 19 #[.int .i64 n, .int .i64 s] w fun e w' => e = .returned (.bool false) ∧ w = w' := by
  go_enter Try.func19, Try.ntmps19
  go_wp2_with fail
  refine (implValid_no _ _ _ hv).mono ?_; rintro e w1 ⟨rfl, rfl⟩
  go_wp2_with fail
  go_ret
  exact ⟨rfl, rfl⟩
theorem sIsLoose_yes (n s : Int) (w : World) (hv : Tic.Valid n s) :
    Calls Try.prog 41 #[.int .i64 n, .int .i64 s] w fun e w' => e = .returned (.bool (decide ((Tic.per n.toNat s.toNat : Int) < n))) ∧ w = w' := by
  go_enter Try.func41, Try.ntmps41
  go_wp2_with fail
  refine (validSet_yes _ _ _ hv).mono ?_; rintro e w1 ⟨rfl, rfl⟩
  go_wp2_with fail
  refine (speriod_any _ _ _ hv).mono ?_; rintro e w1 ⟨rfl, rfl⟩
  by_cases h : (Tic.per n.toNat s.toNat : Int) < n
  · go_wp2_with fail
    go_ret
    exact ⟨ret_bool (by simp [h]), rfl⟩
  · go_wp2_with fail
    go_ret
    exact ⟨ret_bool (by simp), rfl⟩
theorem sIsLoose_no (n s : Int) (w : World) (hv : ¬ Tic.Valid n s) :
    Calls Try.prog 41 #[.int .i64 n, .int .i64 s] w fun e w' => e = .returned (.bool false) ∧ w = w' := by
  go_enter Try.func41, Try.ntmps41
  go_wp2_with fail
  refine (validSet_no _ _ _ hv).mono ?_; rintro e w1 ⟨rfl, rfl⟩
  go_wp2_with fail
  go_ret
  exact ⟨rfl, rfl⟩

/-- no two tones half a circle apart -/
def oddS (N S : Nat) : Bool := N % 2 == 0 && (S &&& Tic.shf N (N / 2 : Nat) S) == 0
theorem wt_none {X : Nat} (h : X < 4096) : Tic.wt 12 X = 0 ↔ X = 0 := by
  constructor
  · intro e
    apply Nat.eq_of_testBit_eq
    intro i
    rw [Nat.zero_testBit]
    cases hb : X.testBit i with
    | false => rfl
    | true =>
      exfalso
      rw [Tic.wt_sm] at e
      have hi : i < 12 := by
        rcases Nat.lt_or_ge i 12 with g | g
        · exact g
        · rw [Tic.bit_big (n := 12) h g] at hb; cases hb
      have := (Tic.sm_pos (fun x => X.testBit x) 12).2 ⟨i, hi, hb⟩
      omega
  · intro e; subst e; exact Tic.wt_zero 12
theorem odd_no {N S : Nat} (h : N % 2 ≠ 0) : oddS N S = false := by unfold oddS; rw [beq_eq_false_iff_ne.2 h]; rfl
theorem odd_even {N S : Nat} (h : N % 2 = 0) : oddS N S = ((S &&& Tic.shf N (N / 2 : Nat) S) == 0) := by unfold oddS; rw [h]; rfl
theorem iIsOdd_no (n s : Int) (w : World) (hv : ¬ Tic.Valid n s) :
    Calls Try.prog 21 #[.int .i64 n, .int .i64 s] w fun e w' => e = .returned (.bool false) ∧ w = w' := by
  go_enter Try.func21, Try.ntmps21
  go_wp2_with fail
  refine (implValid_no _ _ _ hv).mono ?_; rintro e w1 ⟨rfl, rfl⟩
  go_wp2_with fail
  go_ret
  exact ⟨rfl, rfl⟩
set_option maxRecDepth 20000 in
theorem iIsOdd_yes (n s : Int) (w : World) (hv : Tic.Valid n s) :
    Calls Try.prog 21 #[.int .i64 n, .int .i64 s] w fun e w' => e = .returned (.bool (oddS n.toNat s.toNat)) ∧ Below w.heap.size w w' := by
  have hlt := hv.lt
  have g1 := hv.1
  have g2 := hv.2.1
  have hvc := hv
  obtain ⟨N, rfl⟩ := Int.eq_ofNat_of_zero_le (show 0 ≤ n by omega)
  obtain ⟨S, rfl⟩ := Int.eq_ofNat_of_zero_le hv.2.2.1
  rw [Int.toNat_natCast, Int.toNat_natCast]
  have HV := Lib.hid hv
  clear hv hvc
  by_cases h2 : N % 2 = 0
  · have HO := Lib.hid (odd_even (S := S) h2)
    have hev : ((N : Int) % 2 == 0) = true := by rw [beq_iff_eq]; omega
    have hwr : IntKind.i64.wrap ((N : Int) / 2) = ((N / 2 : Nat) : Int) := by rw [IntKind.wrap_i64]; omega
    clear h2
    go_enter Try.func21, Try.ntmps21
    go_wp2_with fail
    refine (implValid_yes _ _ _ HV.out).mono ?_; rintro e w1 ⟨rfl, rfl⟩
    go_wp2
    go_region_held3 (fun w' => w'.cell? ⟨w.heap.size, 0, none⟩ = some (.int .i64 N) ∧ w'.cell? ⟨w.heap.size, 1, none⟩ = some (.int .i64 S))
      (first | go_keep | (refine ⟨?_, ?_⟩ <;> (rw [hb.cell (by simp)]; go_simp)) | (refine ⟨?_, ?_⟩ <;> (rw [hb2.cell (by have := hb.size; simp at this; simp; omega), hb.cell (by simp)]; go_simp)))
      (first | (go_at_call 48; (try rw [hwr]); refine (mshift_any _ _ _ _ HV.out (turn_of (k := N / 2) (by omega))).mono ?_; rintro e w1 ⟨rfl, hb⟩) | (go_at_call 56; refine (common_any _ _ _ _ S (Tic.shf N ((N / 2 : Nat) : Int) S) _ rfl rfl (by omega) (Tic.shf_lt12 HV.out _)).mono ?_; rintro e w2 ⟨rfl, hb2⟩))
    have h1 := hb.size
    simp at h1
    have HB : Hid (Below w.heap.size w w2) := by
      refine Below.trans (Below.trans ?_ (hb.mono (by simp))) (hb2.mono (by omega))
      repeat (first | exact Below.refl _ _ | refine Below.drew ?_ | refine Below.alloc ?_ (by simp) _)
    clear hb hb2
    go_wp2
    go_ret
    refine ⟨ret_bool ?_, HB.out⟩
    rw [HO.out, show ((N : Int) / 2) = ((N / 2 : Nat) : Int) by omega, Bool.eq_iff_iff, beq_iff_eq, beq_iff_eq]
    have h4 : S &&& Tic.shf N ((N / 2 : Nat) : Int) S < 4096 := Nat.and_lt_two_pow (n := 12) _ (Tic.shf_lt12 HV.out ((N / 2 : Nat) : Int))
    rw [← wt_none h4]
    omega
  · have HO := Lib.hid (odd_no (S := S) h2)
    go_enter Try.func21, Try.ntmps21
    go_wp2_with fail
    refine (implValid_yes _ _ _ HV.out).mono ?_; rintro e w1 ⟨rfl, rfl⟩
    go_wp2
    go_ret
    exact ⟨ret_bool HO.out.symm, Below.refl _ _⟩
theorem sIsOdd_no (n s : Int) (w : World) (hv : ¬ Tic.Valid n s) :
    Calls Try.prog 22 #[.int .i64 n, .int .i64 s] w fun e w' => e = .returned (.bool false) ∧ w = w' := by
  go_enter Try.func22, Try.ntmps22
  go_wp2_with fail
  refine (validSet_no _ _ _ hv).mono ?_; rintro e w1 ⟨rfl, rfl⟩
  go_wp2_with fail
  go_ret
  exact ⟨rfl, rfl⟩
set_option maxRecDepth 20000 in
theorem sIsOdd_yes (n s : Int) (w : World) (hv : Tic.Valid n s) :
    Calls Try.prog 22 #[.int .i64 n, .int .i64 s] w fun e w' => e = .returned (.bool (oddS n.toNat s.toNat)) ∧ w = w' := by
  have hlt := hv.lt
  have g1 := hv.1
  have g2 := hv.2.1
  have hvc := hv
  obtain ⟨N, rfl⟩ := Int.eq_ofNat_of_zero_le (show 0 ≤ n by omega)
  obtain ⟨S, rfl⟩ := Int.eq_ofNat_of_zero_le hv.2.2.1
  rw [Int.toNat_natCast, Int.toNat_natCast]
  have HV := Lib.hid hv
  have HA := Lib.hid (i64_and_nat S (Tic.shf N (N / 2 : Nat) S) (by omega) (by have := Tic.shf_lt12 hv (N / 2 : Nat); simp only [Int.toNat_natCast] at this; omega))
  clear hv hvc
  by_cases h2 : N % 2 = 0
  · have HO := Lib.hid (odd_even (S := S) h2)
    have hev : ((N : Int) % 2 == 0) = true := by rw [beq_iff_eq]; omega
    have hwr : IntKind.i64.wrap ((N : Int) / 2) = ((N / 2 : Nat) : Int) := by rw [IntKind.wrap_i64]; omega
    have HM := Lib.hid (show (N : Int) / 2 = ((N / 2 : Nat) : Int) by omega)
    clear h2
    go_enter Try.func22, Try.ntmps22
    go_wp2_with fail
    refine (validSet_yes _ _ _ HV.out).mono ?_; rintro e w1 ⟨rfl, rfl⟩
    go_wp2_with fail
    try rw [HM.out]
    refine (sshift_any _ _ _ _ HV.out (turn_of (k := N / 2) (by omega))).mono ?_; rintro e w1 ⟨rfl, rfl⟩
    rw [Int.toNat_natCast, Int.toNat_natCast]
    have hx := HA.out
    go_wp2
    all_goals
      go_ret
      refine ⟨ret_bool ?_, rfl⟩
      rw [HO.out, Bool.eq_iff_iff]
      simp_all
  · have HO := Lib.hid (odd_no (S := S) h2)
    go_enter Try.func22, Try.ntmps22
    go_wp2_with fail
    refine (validSet_yes _ _ _ HV.out).mono ?_; rintro e w1 ⟨rfl, rfl⟩
    go_wp2
    go_ret
    exact ⟨ret_bool HO.out.symm, rfl⟩
end Go.Proofs.Ytgpbgbcdlebaiaa
