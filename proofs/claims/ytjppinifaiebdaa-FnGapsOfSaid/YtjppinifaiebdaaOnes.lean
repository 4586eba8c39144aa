/-
  Contracts of the library's count of bits, for numbers below 4096, and of the methods others, common and count.
-/
import Derived.Test.YtjppinifaiebdaaShift
import Derived.Test.YtjppinifaiebdaaOnesNum
import Derived.Deep.QuietTactic
import Derived.BigQuiet
import Derived.Deep.RegionHeld3
namespace Go.Proofs.Ytjppinifaiebdaa
open Go.RowKit
set_option linter.unusedVariables false

set_option maxRecDepth 20000 in
theorem ones64_any (x : Int) (X : Nat) (w : World) (hx : x = X) (hX : X < 4096) :
    Calls Try.prog 78 #[.int .u64 x] w fun e w' => e = .returned (.int .i64 (Tic.wt 12 X : Int)) ∧ w = w' := by
  subst hx
  have HO := Lib.hid (ones_long hX)
  go_enter Try.func78, Try.ntmps78
  go_wp2
  go_ret
  refine ⟨ret_int ?_, rfl⟩
  have h := HO.out
  unfold o6 o5 o4 o3 o2 o1 at h
  exact h
theorem ones_any (x : Int) (X : Nat) (w : World) (hx : x = X) (hX : X < 4096) :
    Calls Try.prog 71 #[.int .u64 x] w fun e w' => e = .returned (.int .i64 (Tic.wt 12 X : Int)) ∧ w = w' := by
  subst hx
  go_enter Try.func71, Try.ntmps71
  go_wp2_with fail
  refine (ones64_any _ X _ rfl hX).mono ?_; rintro e w1 ⟨rfl, rfl⟩
  go_wp2_with fail
  go_ret
  exact ⟨rfl, rfl⟩

theorem others_num {n s : Int} (hv : Tic.Valid n s) : wrap64 (wrap64 (wrap64 ((2 : Int) ^ n.toNat) - 1) - s) = ((2 ^ n.toNat : Nat) : Int) - 1 - s := by
  obtain ⟨g1, g2, g3, g4⟩ := hv
  have hp := Tic.pow_le_12 g2
  have hp1 : 1 ≤ 2 ^ n.toNat := Nat.one_le_two_pow
  rw [wrap_pow (by omega)]
  generalize 2 ^ n.toNat = p at g4 hp hp1
  rw [IntWalk.wrap64_in ((p : Int) - 1) (by omega)]
  exact IntWalk.wrap64_in _ (by omega)
theorem others_any (n s : Int) (w : World) (hv : Tic.Valid n s) :
    Calls Try.prog 52 #[.agg #[.int .i64 n, .int .i64 s]] w fun e w' => e = .returned (.agg #[.int .i64 n, .int .i64 (((2 ^ n.toNat : Nat) : Int) - 1 - s)]) ∧ Below w.heap.size w w' := by
  have HW := Lib.hid (others_num hv)
  obtain ⟨g1, g2, g3, _⟩ := hv
  go_enter Try.func52, Try.ntmps52
  go_wp2_with fail
  go_region
  go_wp2
  refine bodyPost_ret (v := .agg #[.int .i64 n, .int .i64 (wrap64 (wrap64 (wrap64 ((2 : Int) ^ n.toNat) - 1) - s))]) (by simp [results, Try.results52, go_sem]) rfl ⟨by rw [HW.out], ?_⟩
  repeat (first | exact Below.refl _ _ | refine Below.drew ?_ | refine Below.setCell ?_ (by simp) _ | refine Below.alloc ?_ (by simp) _)

theorem iOthersOf_yes (n s : Int) (w : World) (hv : Tic.Valid n s) :
    Calls Try.prog 22 #[.int .i64 n, .int .i64 s] w fun e w' => e = .returned (.int .i64 (((2 ^ n.toNat : Nat) : Int) - 1 - s)) ∧ Below w.heap.size w w' := by
  have hfd := tones_of
  go_enter Try.func22, Try.ntmps22
  go_wp2_with fail
  refine (implValid_yes _ _ _ hv).mono ?_; rintro e w1 ⟨rfl, rfl⟩
  go_wp2_with fail
  refine (others_any _ _ _ hv).mono ?_; rintro e w1 ⟨rfl, hb⟩
  go_wp2_with fail
  go_ret
  exact ⟨rfl, hb⟩
theorem iOthersOf_no (n s : Int) (w : World) (hv : ¬ Tic.Valid n s) :
    Calls Try.prog 22 #[.int .i64 n, .int .i64 s] w fun e w' => e = .returned (.int .i64 (-1)) ∧ w = w' := by
  go_enter Try.func22, Try.ntmps22
  go_wp2_with fail
  refine (implValid_no _ _ _ hv).mono ?_; rintro e w1 ⟨rfl, rfl⟩
  go_wp2_with fail
  go_ret
  exact ⟨rfl, rfl⟩
theorem sOthersOf_yes (n s : Int) (w : World) (hv : Tic.Valid n s) :
    Calls Try.prog 23 #[.int .i64 n, .int .i64 s] w fun e w' => e = .returned (.int .i64 (((2 ^ n.toNat : Nat) : Int) - 1 - s)) ∧ w = w' := by
  have hlt := hv.lt
  have g1 := hv.1
  have g2 := hv.2.1
  have g3 := hv.2.2.1
  have hp := Tic.pow_le_12 g2
  have hp1 : 1 ≤ 2 ^ n.toNat := Nat.one_le_two_pow
  generalize hg : 2 ^ n.toNat = p at hp hp1
  have HG := Lib.hid hg
  clear hg
  go_enter Try.func23, Try.ntmps23
  go_wp2_with fail
  refine (validSet_yes _ _ _ hv).mono ?_; rintro e w1 ⟨rfl, rfl⟩
  go_wp2_with fail
  refine (power_any _ _ (by omega) (by omega)).mono ?_; rintro e w1 ⟨rfl, rfl⟩; rw [HG.out]
  go_wp2_with fail
  go_ret
  exact ⟨rfl, rfl⟩
theorem sOthersOf_no (n s : Int) (w : World) (hv : ¬ Tic.Valid n s) :
    Calls Try.prog 23 #[.int .i64 n, .int .i64 s] w fun e w' => e = .returned (.int .i64 (-1)) ∧ w = w' := by
  go_enter Try.func23, Try.ntmps23
  go_wp2_with fail
  refine (validSet_no _ _ _ hv).mono ?_; rintro e w1 ⟨rfl, rfl⟩
  go_wp2_with fail
  go_ret
  exact ⟨rfl, rfl⟩

theorem u64_small {P : Nat} (h : P < 4096) : IntKind.u64.wrap (P : Int) = P := by rw [IntKind.wrap_u64]; omega
theorem common_any (n s n2 s2 : Int) (S S2 : Nat) (w : World) (h1 : s = S) (h2 : s2 = S2) (h3 : S < 4096) (h4 : S2 < 4096) :
    Calls Try.prog 56 #[.agg #[.int .i64 n, .int .i64 s], .agg #[.int .i64 n2, .int .i64 s2]] w fun e w' => e = .returned (.int .i64 (Tic.wt 12 (S &&& S2) : Int)) ∧ Below w.heap.size w w' := by
  subst h1 h2
  have HA := Lib.hid (i64_and_nat S S2 (by omega) (by omega))
  have hlt : S &&& S2 < 4096 := Nat.and_lt_two_pow (n := 12) S (by omega)
  go_enter Try.func56, Try.ntmps56
  go_wp2_with fail
  rw [HA.out, u64_small hlt]
  refine (ones_any _ (S &&& S2) _ rfl hlt).mono ?_; rintro e w1 ⟨rfl, rfl⟩
  go_wp2_with fail
  go_ret
  exact ⟨rfl, ((Below.refl _ _).alloc (Nat.le_refl _) _).alloc (by simp) _⟩
theorem iCommonOf_yes (n s t : Int) (w : World) (hv : Tic.Valid n s) (ht : Tic.Turn t) :
    Calls Try.prog 29 #[.int .i64 n, .int .i64 s, .int .i64 t] w fun e w' => e = .returned (.int .i64 (Tic.wt 12 (s.toNat &&& Tic.shf n.toNat t s.toNat) : Int)) ∧ Below w.heap.size w w' := by
  have hlt := hv.lt
  go_enter Try.func29, Try.ntmps29
  go_wp2_with fail
  refine (implValid_yes _ _ _ hv).mono ?_; rintro e w1 ⟨rfl, rfl⟩
  go_wp2_with fail
  refine (shiftOk_yes _ _ ht).mono ?_; rintro e w1 ⟨rfl, rfl⟩
  go_wp2_with fail
  go_region_held3 (fun w' => w'.cell? ⟨w.heap.size, 0, none⟩ = some (.int .i64 n) ∧ w'.cell? ⟨w.heap.size, 1, none⟩ = some (.int .i64 s))
    (first | go_keep | (refine ⟨?_, ?_⟩ <;> (rw [hb.cell (by simp)]; go_simp)) | (refine ⟨?_, ?_⟩ <;> (rw [hb2.cell (by have := hb.size; simp at this; simp; omega), hb.cell (by simp)]; go_simp)))
    (first | (go_at_call 45; refine (mshift_any _ _ _ _ hv ht).mono ?_; rintro e w1 ⟨rfl, hb⟩) | (go_at_call 56; refine (common_any _ _ _ _ s.toNat (Tic.shf n.toNat t s.toNat) _ hv.cast rfl hv.nat (Tic.shf_lt12 hv t)).mono ?_; rintro e w2 ⟨rfl, hb2⟩))
  go_wp2
  go_ret
  refine ⟨rfl, ?_⟩
  have h1 := hb.size
  simp at h1
  refine Below.trans (Below.trans ?_ (hb.mono (by simp))) (hb2.mono (by omega))
  repeat (first | exact Below.refl _ _ | refine Below.drew ?_ | refine Below.alloc ?_ (by simp) _)

theorem iCommonOf_no (n s t : Int) (w : World) (h : ¬ (Tic.Valid n s ∧ Tic.Turn t)) :
    Calls Try.prog 29 #[.int .i64 n, .int .i64 s, .int .i64 t] w fun e w' => e = .returned (.int .i64 (-1)) ∧ w = w' := by
  by_cases hv : Tic.Valid n s
  · have ht : ¬ Tic.Turn t := fun ht => h ⟨hv, ht⟩
    clear h
    go_enter Try.func29, Try.ntmps29
    go_wp2_with fail
    refine (implValid_yes _ _ _ hv).mono ?_; rintro e w1 ⟨rfl, rfl⟩
    go_wp2_with fail
    refine (shiftOk_no _ _ ht).mono ?_; rintro e w1 ⟨rfl, rfl⟩
    go_wp2_with fail
    go_ret
    exact ⟨rfl, rfl⟩
  · clear h
    go_enter Try.func29, Try.ntmps29
    go_wp2_with fail
    refine (implValid_no _ _ _ hv).mono ?_; rintro e w1 ⟨rfl, rfl⟩
    go_wp2_with fail
    go_ret
    exact ⟨rfl, rfl⟩
theorem sCommonOf_yes (n s t : Int) (w : World) (hv : Tic.Valid n s) (ht : Tic.Turn t) :
    Calls Try.prog 30 #[.int .i64 n, .int .i64 s, .int .i64 t] w fun e w' => e = .returned (.int .i64 (Tic.wt 12 (s.toNat &&& Tic.shf n.toNat t s.toNat) : Int)) ∧ w = w' := by
  have hS := hv.nat
  have hT := Tic.shf_lt12 hv t
  have HC := Lib.hid hv.cast
  have HA := Lib.hid (i64_and_nat s.toNat (Tic.shf n.toNat t s.toNat) (by omega) (by omega))
  have hlt : s.toNat &&& Tic.shf n.toNat t s.toNat < 4096 := Nat.and_lt_two_pow (n := 12) _ (by omega)
  go_enter Try.func30, Try.ntmps30
  go_wp2_with fail
  refine (validSet_yes _ _ _ hv).mono ?_; rintro e w1 ⟨rfl, rfl⟩
  go_wp2_with fail
  refine (inRange_yes _ _ _ _ ht.1 ht.2).mono ?_; rintro e w1 ⟨rfl, rfl⟩
  go_wp2_with fail
  refine (sshift_any _ _ _ _ hv ht).mono ?_; rintro e w1 ⟨rfl, rfl⟩
  go_wp2_with fail
  rw [show bits .and .i64 s (Tic.shf n.toNat t s.toNat : Int) = ((s.toNat &&& Tic.shf n.toNat t s.toNat : Nat) : Int) by conv => { lhs; rw [HC.out] }; exact HA.out]
  refine (weight_any _ _ (by omega) (by omega)).mono ?_; rintro e w1 ⟨rfl, rfl⟩
  go_wp2_with fail
  go_ret
  exact ⟨rfl, rfl⟩
theorem sCommonOf_no (n s t : Int) (w : World) (h : ¬ (Tic.Valid n s ∧ Tic.Turn t)) :
    Calls Try.prog 30 #[.int .i64 n, .int .i64 s, .int .i64 t] w fun e w' => e = .returned (.int .i64 (-1)) ∧ w = w' := by
  by_cases hv : Tic.Valid n s
  · have ht : t < -50 ∨ 50 < t := by
      have : ¬ Tic.Turn t := fun ht => h ⟨hv, ht⟩
      unfold Tic.Turn at this
      omega
    clear h
    go_enter Try.func30, Try.ntmps30
    go_wp2_with fail
    refine (validSet_yes _ _ _ hv).mono ?_; rintro e w1 ⟨rfl, rfl⟩
    go_wp2_with fail
    refine (inRange_no _ _ _ _ ht).mono ?_; rintro e w1 ⟨rfl, rfl⟩
    go_wp2_with fail
    go_ret
    exact ⟨rfl, rfl⟩
  · clear h
    go_enter Try.func30, Try.ntmps30
    go_wp2_with fail
    refine (validSet_no _ _ _ hv).mono ?_; rintro e w1 ⟨rfl, rfl⟩
    go_wp2_with fail
    go_ret
    exact ⟨rfl, rfl⟩

end Go.Proofs.Ytjppinifaiebdaa
