/-
  Contracts of the library's count of bits, for numbers below 4096, and of the methods others, common and count.
-/
import Derived.Test.YtmofhhffkppelaaShift
import Derived.Test.YtmofhhffkppelaaOnesNum
import Derived.Deep.QuietTactic
import Derived.BigQuiet
import Derived.Deep.RegionHeld3
namespace Go.Proofs.Ytmofhhffkppelaa
open Go.RowKit
set_option linter.unusedVariables false

set_option maxRecDepth 20000 in
theorem ones64_any (x : Int) (X : Nat) (w : World) (hx : x = X) (hX : X < 4096) :
    Calls Try.prog 67 #[.int .u64 x] w fun e w' => e = .returned (.int .i64 (Tic.wt 12 X : Int)) ∧ w = w' := by
  subst hx
  have HO := Lib.hid (ones_long hX)
  go_enter Try.func67, Try.ntmps67
  go_wp2
  go_ret
  refine ⟨ret_int ?_, rfl⟩
  have h := HO.out
  unfold o6 o5 o4 o3 o2 o1 at h
  exact h
theorem ones_any (x : Int) (X : Nat) (w : World) (hx : x = X) (hX : X < 4096) :
    Calls Try.prog 56 #[.int .u64 x] w fun e w' => e = .returned (.int .i64 (Tic.wt 12 X : Int)) ∧ w = w' := by
  subst hx
  go_enter Try.func56, Try.ntmps56
  go_wp2_with fail
  refine (ones64_any _ X _ rfl hX).mono ?_; rintro e w1 ⟨rfl, rfl⟩
  go_wp2_with fail
  go_ret
  exact ⟨rfl, rfl⟩

theorem others_num {n s : Int} (hv : Tic.Valid n s) : wrap64 (wrap64 (wrap64 ((2 : Int) ^ n.toNat) - 1) - s) = ((2 ^ n.toNat : Nat) : Int) - 1 - s := by
  obtain ⟨g1, g2, g3, g4⟩ := hv
  have hp := Tic.pow_le_12 g2
  have hp1 : 1 ≤ 2 ^ n.toNat := Nat.one_le_two_pow
  rw [wrap_pow (by omega)]
  generalize 2 ^ n.toNat = p at g4 hp hp1
  rw [IntWalk.wrap64_in ((p : Int) - 1) (by omega)]
  exact IntWalk.wrap64_in _ (by omega)


theorem u64_small {P : Nat} (h : P < 4096) : IntKind.u64.wrap (P : Int) = P := by rw [IntKind.wrap_u64]; omega
theorem common_any (n s n2 s2 : Int) (S S2 : Nat) (w : World) (h1 : s = S) (h2 : s2 = S2) (h3 : S < 4096) (h4 : S2 < 4096) :
    Calls Try.prog 41 #[.agg #[.int .i64 n, .int .i64 s], .agg #[.int .i64 n2, .int .i64 s2]] w fun e w' => e = .returned (.int .i64 (Tic.wt 12 (S &&& S2) : Int)) ∧ Below w.heap.size w w' := by
  subst h1 h2
  have HA := Lib.hid (i64_and_nat S S2 (by omega) (by omega))
  have hlt : S &&& S2 < 4096 := Nat.and_lt_two_pow (n := 12) S (by omega)
  go_enter Try.func41, Try.ntmps41
  go_wp2_with fail
  rw [HA.out, u64_small hlt]
  refine (ones_any _ (S &&& S2) _ rfl hlt).mono ?_; rintro e w1 ⟨rfl, rfl⟩
  go_wp2_with fail
  go_ret
  exact ⟨rfl, ((Below.refl _ _).alloc (Nat.le_refl _) _).alloc (by simp) _⟩
theorem count_any (n s : Int) (S : Nat) (w : World) (h1 : s = S) (h3 : S < 4096) :
    Calls Try.prog 58 #[.agg #[.int .i64 n, .int .i64 s]] w fun e w' => e = .returned (.int .i64 (Tic.wt 12 S : Int)) ∧ Below w.heap.size w w' := by
  subst h1
  go_enter Try.func58, Try.ntmps58
  go_wp2_with fail
  refine (ones_any _ S _ rfl h3).mono ?_; rintro e w1 ⟨rfl, rfl⟩
  go_wp2_with fail
  go_ret
  exact ⟨rfl, (Below.refl _ _).alloc (Nat.le_refl _) _⟩
theorem iCommonOf_yes (n s t : Int) (w : World) (hv : Tic.Valid n s) (ht : Tic.Turn t) :
    Calls Try.prog 20 #[.int .i64 n, .int .i64 s, .int .i64 t] w fun e w' => e = .returned (.int .i64 (Tic.wt 12 (s.toNat &&& Tic.shf n.toNat t s.toNat) : Int)) ∧ Below w.heap.size w w' := by
  have hlt := hv.lt
  go_enter Try.func20, Try.ntmps20
  go_wp2_with fail
  refine (implValid_yes _ _ _ hv).mono ?_; rintro e w1 ⟨rfl, rfl⟩
  go_wp2_with fail
  refine (shiftOk_yes _ _ ht).mono ?_; rintro e w1 ⟨rfl, rfl⟩
  go_wp2_with fail
  go_region_held3 (fun w' => w'.cell? ⟨w.heap.size, 0, none⟩ = some (.int .i64 n) ∧ w'.cell? ⟨w.heap.size, 1, none⟩ = some (.int .i64 s))
    (first | go_keep | (refine ⟨?_, ?_⟩ <;> (rw [hb.cell (by simp)]; go_simp)) | (refine ⟨?_, ?_⟩ <;> (rw [hb2.cell (by have := hb.size; simp at this; simp; omega), hb.cell (by simp)]; go_simp)))
    (first | (go_at_call 42; refine (mshift_any _ _ _ _ hv ht).mono ?_; rintro e w1 ⟨rfl, hb⟩) | (go_at_call 41; refine (common_any _ _ _ _ s.toNat (Tic.shf n.toNat t s.toNat) _ hv.cast rfl hv.nat (Tic.shf_lt12 hv t)).mono ?_; rintro e w2 ⟨rfl, hb2⟩))
  go_wp2
  go_ret
  refine ⟨rfl, ?_⟩
  have h1 := hb.size
  simp at h1
  refine Below.trans (Below.trans ?_ (hb.mono (by simp))) (hb2.mono (by omega))
  repeat (first | exact Below.refl _ _ | refine Below.drew ?_ | refine Below.alloc ?_ (by simp) _)

theorem iCommonOf_no (n s t : Int) (w : World) (h : ¬ (Tic.Valid n s ∧ Tic.Turn t)) :
    Calls Try.prog 20 #[.int .i64 n, .int .i64 s, .int .i64 t] w fun e w' => e = .returned (.int .i64 (-1)) ∧ w = w' := by
  by_cases hv : Tic.Valid n s
  · have ht : ¬ Tic.Turn t := fun ht => h ⟨hv, ht⟩
    clear h
    go_enter Try.func20, Try.ntmps20
    go_wp2_with fail
    refine (implValid_yes _ _ _ hv).mono ?_; rintro e w1 ⟨rfl, rfl⟩
    go_wp2_with fail
    refine (shiftOk_no _ _ ht).mono ?_; rintro e w1 ⟨rfl, rfl⟩
    go_wp2_with fail
    go_ret
    exact ⟨rfl, rfl⟩
  · clear h
    go_enter Try.func20, Try.ntmps20
    go_wp2_with fail
    refine (implValid_no _ _ _ hv).mono ?_; rintro e w1 ⟨rfl, rfl⟩
    go_wp2_with fail
    go_ret
    exact ⟨rfl, rfl⟩

end Go.Proofs.Ytmofhhffkppelaa
