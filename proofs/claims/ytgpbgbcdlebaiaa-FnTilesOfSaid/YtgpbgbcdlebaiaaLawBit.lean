/-
  Two helpers of the laws: a tone of a set, and the sum of a list.
-/
import Derived.Test.YtgpbgbcdlebaiaaLawLow
import Derived.Test.YtgpbgbcdlebaiaaTileNum
import Derived.Test.YtgpbgbcdlebaiaaGapsNum
import Derived.Test.YtgpbgbcdlebaiaaArr
namespace Go.Proofs.Ytgpbgbcdlebaiaa
open Go.RowKit
set_option linter.unusedVariables false

theorem lbit_any (x j : Int) (w : World) (h0 : 0 ≤ x) (hx : x ≤ 1000000) (h1 : 0 ≤ j) (h2 : j ≤ 61) :
    Calls Try.prog 33 #[.int .i64 x, .int .i64 j] w fun e w' => e = .returned (.int .i64 (Tic.bitI x.toNat j.toNat)) ∧ w = w' := by
  obtain ⟨s, rfl⟩ := Int.eq_ofNat_of_zero_le h0
  have hp : 1 ≤ 2 ^ j.toNat := Nat.one_le_two_pow
  have hpl := Tic.pow_le_62 (k := j.toNat) (by omega)
  have HB := Lib.hid (Tic.bitI_eq s j.toNat)
  generalize hg : 2 ^ j.toNat = p at hp hpl
  have HG := Lib.hid hg
  clear hg
  obtain ⟨hq0, hq1⟩ := Tic.div_bd s p
  go_enter Try.func33, Try.ntmps33
  go_wp2_with (go_at_call 32; refine (lpower_any _ _ h1 h2).mono ?_; rintro e w' ⟨rfl, rfl⟩; rw [HG.out])
  go_ret
  refine ⟨ret_int ?_, rfl⟩
  rw [Int.toNat_natCast, HB.out, HG.out]
  rfl
theorem ltotal_any (C : Nat → Nat) (N : Nat) (v : Value) (B : Nat) (w : World) (h : Row w B v (Tic.cts N C)) (hN : N ≤ 12) (hC : ∀ t, C t ≤ 12) :
    Calls Try.prog 45 #[v] w fun e w' => e = .returned (.int .i64 (Tic.sm C N : Int)) ∧ w = w' := by
  obtain ⟨a, c, rfl, hvw⟩ := h.view
  rw [Tic.cts_length] at hvw ⊢
  have HVW := Lib.hid hvw
  have HC := Lib.hid hC
  have HS : Hid (∀ i, i ≤ N → Tic.sm C i ≤ 144) := Lib.hid (fun i hi => Nat.le_trans (Tic.sm_bd (c := 12) (fun x _ => hC x)) (by omega))
  clear hvw h hC
  go_enter Try.func45, Try.ntmps45
  go_wp2
  go_loop [3, 4] (fun t3 t4 => ∃ i : Nat, i ≤ N ∧ t4 = .int .i64 i ∧ t3 = .int .i64 (Tic.sm C i : Int)) (fun _ t4 => N - (intOf t4).toNat)
  case atStart => exact ⟨0, Nat.zero_le _, rfl, rfl⟩
  case round =>
    obtain ⟨i, hi, rfl, rfl⟩ := hrel
    by_cases hli : i < N
    · obtain ⟨g, rfl, _, _, hcel⟩ := HVW.out (by omega)
      have hcl := hcel i hli
      rw [Tic.cts_getD _ hli] at hcl
      have h1 := HS.out i hi
      have h2 := HC.out i
      have HN : Hid (Tic.sm C (i + 1) = Tic.sm C i + C i) := Lib.hid rfl
      clear hcel
      generalize C i = ci at hcl h2 HN
      generalize Tic.sm C i = p at h1 HN ⊢
      go_wp2
      go_round
      case rel => exact ⟨i + 1, by omega, by go_num, by rw [HN.out]; go_num⟩
      case measure => simp [intOf]; omega
    · obtain rfl : i = N := by omega
      go_wp2
      go_ret
      exact ⟨rfl, rfl⟩
end Go.Proofs.Ytgpbgbcdlebaiaa
