/-
  Contracts of the laws' own helpers on numbers.
-/
import Derived.Test.YtmofhhffkppelaaDraws
import Derived.Test.YtmofhhffkppelaaEq
import Derived.Test.YtmofhhffkppelaaOnes
import Derived.Test.YtmofhhffkppelaaLawNum
namespace Go.Proofs.Ytmofhhffkppelaa
open Go.RowKit
set_option linter.unusedVariables false

theorem lweight_any (x : Int) (w : World) (h0 : 0 ≤ x) (hx : x < 4096) :
    Calls Try.prog 12 #[.int .i64 x] w fun e w' => e = .returned (.int .i64 (Tic.wt 12 x.toNat : Int)) ∧ w = w' := by
  obtain ⟨s, rfl⟩ := Int.eq_ofNat_of_zero_le h0
  rw [Int.toNat_natCast]
  have hle := Tic.wt_le 12 s
  go_enter Try.func12, Try.ntmps12
  go_wp2
  go_loop [0, 3] (fun t0 t3 => ∃ f r c : Nat, f ≤ 12 ∧ c ≤ 12 ∧ r ≤ 4095 ∧ r < 2 ^ f ∧ t0 = .int .i64 r ∧ t3 = .int .i64 c ∧ Hid (c + Tic.wt f r = Tic.wt 12 s)) (fun t0 _ => (intOf t0).toNat)
  case atStart => exact ⟨12, s, 0, by omega, by omega, by omega, by omega, rfl, rfl, Nat.zero_add _⟩
  case round =>
    obtain ⟨f, r, c, hf, hc, hr', hr, rfl, rfl, hP⟩ := hrel
    by_cases hlt : 0 < r
    · obtain ⟨g, rfl⟩ : ∃ g, f = g + 1 := ⟨f - 1, by
        cases f with
        | zero => simp at hr; omega
        | succ f => omega⟩
      have h3 : c + (r % 2 + Tic.wt g (r / 2)) = Tic.wt 12 s := hP.out
      have hm : c + r % 2 ≤ 12 := by omega
      have H3 := Lib.hid h3
      clear h3
      rw [Nat.pow_succ] at hr
      go_wp2
      go_round
      case rel => exact ⟨g, r / 2, c + r % 2, by omega, by omega, by omega, by omega, by go_num, by go_num, by have := H3.out; show c + r % 2 + Tic.wt g (r / 2) = Tic.wt 12 s; omega⟩
      case measure => simp [intOf]; omega
    · have : r = 0 := by omega
      subst this
      go_wp2
      go_ret
      have h3 := hP.out
      rw [Tic.wt_zero] at h3
      exact ⟨ret_int (by omega), rfl⟩

end Go.Proofs.Ytmofhhffkppelaa
