/-
  Contracts of kinds of sets: the method kind, PrimeOf and MovesOf, of the program and of the model.
-/
import Derived.Test.YtmofhhffkppelaaOnes
import Derived.Test.YtmofhhffkppelaaSetEq
import Derived.Test.YtmofhhffkppelaaKindNum
import Derived.WalkLawsBesides
import Derived.Laws.StructEq
namespace Go.Proofs.Ytmofhhffkppelaa
open Go.RowKit
set_option linter.unusedVariables false

theorem least_of (a b : Int) (w : World) : (Instr.field 45 (.agg #[.int .i64 a, .int .i64 b]) 1).run Try.prog w = .ok (.int .i64 b) w := by kernel_rfl

theorem kind_any (n s : Int) (w : World) (hv : Tic.Valid n s) :
    Calls Try.prog 32 #[.agg #[.int .i64 n, .int .i64 s]] w fun e w' => e = .returned (.agg #[.int .i64 n, .int .i64 (Tic.prm n.toNat s.toNat : Int)]) ∧ Below w.heap.size w w' := by
  have hlt := hv.lt
  have g1 := hv.1
  have g2 := hv.2.1
  have hfd := tones_of
  obtain ⟨N, rfl⟩ := Int.eq_ofNat_of_zero_le (show 0 ≤ n by omega)
  obtain ⟨S, rfl⟩ := Int.eq_ofNat_of_zero_le hv.2.2.1
  rw [Int.toNat_natCast, Int.toNat_natCast]
  go_enter Try.func32, Try.ntmps32
  go_wp2
  go_loopw [3, 4, 9] (fun t3 t4 t9 wr => ∃ k : Nat, k ≤ N ∧ t9 = .int .i64 k ∧ t3 = .int .i64 (Tic.kTo N S k : Int) ∧
      wr.cell? ⟨w.heap.size, 0, none⟩ = some (.int .i64 N) ∧ wr.cell? ⟨w.heap.size, 1, none⟩ = some (.int .i64 S) ∧
      wr.cell? ⟨w.heap.size + 1, 0, none⟩ = some (.int .i64 0) ∧ wr.cell? ⟨w.heap.size + 1, 1, none⟩ = some (.int .i64 0) ∧
      wr.frozen? ⟨w.heap.size + 1, 0, none⟩ = false ∧ wr.frozen? ⟨w.heap.size + 1, 1, none⟩ = false ∧
      w.heap.size + 1 < wr.heap.size ∧ Below w.heap.size w wr) (fun _ _ t9 _ => N - (intOf t9).toNat)
  case atStart =>
    refine ⟨0, Nat.zero_le _, rfl, rfl, ?_, ?_, ?_, ?_, ?_, ?_, ?_, ?_⟩
    all_goals first | exact ((Below.refl _ _).alloc (Nat.le_refl _) _).alloc (by simp) _ | go_simp
  case round =>
    obtain ⟨k, hk, rfl, rfl, a0, a1, r0, r1, q0, q1, hz, hbel⟩ := hrel
    by_cases hlt2 : k < N
    · have ht : Tic.Turn (k : Int) := ⟨by omega, by omega⟩
      have hz0 : w.heap.size < wr.heap.size := by omega
      have hk0 : Below wr.heap.size wr wr := Below.refl _ _
      go_wp2_with fail
      go_region_held3 (fun w' => w'.cell? ⟨w.heap.size, 0, none⟩ = some (.int .i64 N) ∧ w'.cell? ⟨w.heap.size, 1, none⟩ = some (.int .i64 S))
        (first | go_keep | (refine ⟨?_, ?_⟩ <;> ((refine (hk0.cell ?_).trans ?_) <;> assumption)))
        (first | (go_at_call 42; refine (mshift_any _ _ _ _ hv ht).mono ?_; rintro e w1 ⟨rfl, hb⟩; replace hk0 : Below wr.heap.size wr w1 := (by first | exact grow1 hk0 hb | exact grow0 hk0 hb); clear hb) | (go_at_call 52; refine (mturn_any _ _ _ _ hv ht).mono ?_; rintro e w1 ⟨rfl, hb⟩; replace hk0 : Below wr.heap.size wr w1 := (by first | exact grow1 hk0 hb | exact grow0 hk0 hb); clear hb))
      have HK : Hid (Tic.kTo N S (k + 1) = min (min (Tic.kTo N S k) (Tic.img (Tic.mvd N 1 k) S N)) (Tic.img (Tic.mvd N (-1) k) S N)) := rfl
      have d0 := (hk0.cell (p := ⟨w.heap.size, 0, none⟩) hz0).trans a0
      have d1 := (hk0.cell (p := ⟨w.heap.size, 1, none⟩) hz0).trans a1
      have e0 := (hk0.cell (p := ⟨w.heap.size + 1, 0, none⟩) hz).trans r0
      have e1 := (hk0.cell (p := ⟨w.heap.size + 1, 1, none⟩) hz).trans r1
      have f0 := (hk0.frozen (p := ⟨w.heap.size + 1, 0, none⟩) hz).trans q0
      have f1 := (hk0.frozen (p := ⟨w.heap.size + 1, 1, none⟩) hz).trans q1
      have hz1 := hk0.size
      have hb1 := hbel.trans (hk0.mono (by omega))
      clear a0 a1 r0 r1 q0 q1
      go_wp2
      all_goals
        go_roundw
        case rel => exact ⟨k + 1, by omega, by go_num, congrArg (Value.int .i64) (by have := HK.out; omega), d0, d1, e0, e1, f0, f1, by omega, hb1⟩
        case measure => simp [intOf]; omega
    · have : k = N := by omega
      subst this
      go_wp2
      obtain ⟨e1, e2⟩ := pair_back (x := .int .i64 k) (y := .int .i64 (Tic.kTo k S k : Int)) r0 r1
      refine bodyPost_ret (v := .agg #[.int .i64 k, .int .i64 (Tic.kTo k S k : Int)]) (by simp [results, Try.results32, go_sem, e1, e2]) rfl ⟨rfl, ?_⟩
      exact (hbel.setCell (by simp) _).setCell (by simp) _

theorem iPrimeOf_yes (n s : Int) (w : World) (hv : Tic.Valid n s) :
    Calls Try.prog 21 #[.int .i64 n, .int .i64 s] w fun e w' => e = .returned (.int .i64 (Tic.prm n.toNat s.toNat : Int)) ∧ Below w.heap.size w w' := by
  have hfd := least_of
  go_enter Try.func21, Try.ntmps21
  go_wp2_with fail
  refine (implValid_yes _ _ _ hv).mono ?_; rintro e w1 ⟨rfl, rfl⟩
  go_wp2_with fail
  refine (kind_any _ _ _ hv).mono ?_; rintro e w1 ⟨rfl, hb⟩
  go_wp2_with fail
  go_ret
  exact ⟨rfl, hb⟩
theorem iPrimeOf_no (n s : Int) (w : World) (hv : ¬ Tic.Valid n s) :
    Calls Try.prog 21 #[.int .i64 n, .int .i64 s] w fun e w' => e = .returned (.int .i64 (-1)) ∧ w = w' := by
  go_enter Try.func21, Try.ntmps21
  go_wp2_with fail
  refine (implValid_no _ _ _ hv).mono ?_; rintro e w1 ⟨rfl, rfl⟩
  go_wp2_with fail
  go_ret
  exact ⟨rfl, rfl⟩

theorem least_any (n s : Int) (w : World) (hv : Tic.Valid n s) :
    Calls Try.prog 61 #[.int .i64 n, .int .i64 s] w fun e w' => e = .returned (.int .i64 (Tic.lTo n.toNat s.toNat (n.toNat - 1) : Int)) ∧ w = w' := by
  have hlt := hv.lt
  have g1 := hv.1
  have g2 := hv.2.1
  obtain ⟨N, rfl⟩ := Int.eq_ofNat_of_zero_le (show 0 ≤ n by omega)
  obtain ⟨S, rfl⟩ := Int.eq_ofNat_of_zero_le hv.2.2.1
  rw [Int.toNat_natCast, Int.toNat_natCast]
  go_enter Try.func61, Try.ntmps61
  go_wp2
  go_loop [5, 6] (fun t5 t6 => ∃ k : Nat, 1 ≤ k ∧ k ≤ N ∧ t6 = .int .i64 k ∧ t5 = .int .i64 (Tic.lTo N S (k - 1) : Int)) (fun _ t6 => N - (intOf t6).toNat)
  case atStart => exact ⟨1, by omega, by omega, rfl, rfl⟩
  case round =>
    obtain ⟨k, hk1, hk, rfl, rfl⟩ := hrel
    by_cases hlt2 : k < N
    · have ht : Tic.Turn (k : Int) := ⟨by omega, by omega⟩
      have HK := Lib.hid (Tic.lTo_next N S hk1)
      go_wp2_with fail
      refine (sshift_any _ _ _ _ hv ht).mono ?_; rintro e w1 ⟨rfl, rfl⟩
      go_wp2
      all_goals
        go_round
        case rel => exact ⟨k + 1, by omega, by omega, by go_num, congrArg (Value.int .i64) (by have := HK.out; omega)⟩
        case measure => simp [intOf]; omega
    · have : k = N := by omega
      subst this
      go_wp2
      go_ret
      exact ⟨rfl, rfl⟩


theorem prime_any (n s : Int) (w : World) (hv : Tic.Valid n s) :
    Calls Try.prog 48 #[.int .i64 n, .int .i64 s] w fun e w' => e = .returned (.int .i64 (Tic.prm n.toNat s.toNat : Int)) ∧ w = w' := by
  have HM := Lib.hid (Tic.prm_min hv)
  have H0 := Lib.hid (Int.toNat_natCast (Tic.tur n.toNat 0 s.toNat))
  go_enter Try.func48, Try.ntmps48
  go_wp2_with fail
  refine (least_any _ _ _ hv).mono ?_; rintro e w1 ⟨rfl, rfl⟩
  go_wp2_with fail
  refine (sturn_any _ _ _ _ hv ⟨by omega, by omega⟩).mono ?_; rintro e w1 ⟨rfl, rfl⟩
  go_wp2_with fail
  refine (least_any _ _ _ (Tic.valid_tur hv 0)).mono ?_; rintro e w1 ⟨rfl, rfl⟩
  rw [H0.out]
  go_wp2
  all_goals
    go_ret
    exact ⟨ret_int (by have := HM.out; omega), rfl⟩


end Go.Proofs.Ytmofhhffkppelaa
