/-
  The walk of the exact law of GapsBetween.
-/
import Derived.Test.YtpcbplademohnaaDoorGapsOut
import Derived.Test.YtpcbplademohnaaDoorSGaps
import Derived.Test.YtpcbplademohnaaDoorExact6D
namespace Go.Proofs.YtpcbplademohnaaDoor
open Go.RowKit
set_option linter.unusedVariables false

set_option maxHeartbeats 800000 in
theorem FnExactGapsBetween_core (a0 : Int) (LL : List (List Int)) (hl : LL.length ≤ 16777216) (ho : offs LL LL.length ≤ 100000000000) (hs : ∀ w, Calls Tryd.prog 12 #[.int .i64 a0] w (GivesLists LL w)) (hi : ∀ w, Primes w → Calls Tryd.prog 13 #[.int .i64 a0] w (GivesLists LL w)) (w : World) (hsh : Primes w) :
    Calls Tryd.prog 4 #[.int .i64 a0] w fun e w' => e = .returned (.bool true) ∧ Below w.heap.size w w' := by
  have HS := Lib.hid hs
  have HI := Lib.hid hi
  have HP := Lib.hid (fun (W : World) hW => Primes.kept (w := w) (w' := W) hsh hW)
  clear hs hi hsh
  go_enter Tryd.func4, Tryd.ntmps4
  go_wp2_with fail
  refine (HS.out _).mono ?_; rintro e w1 ⟨v0, vs0, rfl, r0, b1⟩
  have lt0 := Lib.hid r0.blocks
  have R0 := Lib.hid r0
  have B1 := Lib.hid b1
  clear r0 b1
  go_wp2_with fail
  refine (HI.out _ (HP.out _ B1.out)).mono ?_; rintro e w2 ⟨v1, vs1, rfl, r1, b2⟩
  have R1 := Lib.hid r1
  have R0' := Lib.hid (R0.out.kept b2)
  have hz2 := b2.size
  have B2 := Lib.hid (B1.out.trans (b2.mono B1.out.size))
  clear r1 b2 R0
  go_wp2_with fail
  refine (eqIntSS_same _ _ _ _ _ _ _ _ R1.out R0'.out).mono ?_; rintro e w3 ⟨rfl, b3⟩
  have R1' := Lib.hid (R1.out.kept b3)
  have R0 := Lib.hid (R0'.out.kept b3)
  have hz3 := b3.size
  have B3 := Lib.hid (B2.out.trans (b3.mono B2.out.size))
  clear b3 R1 R0' B2
  go_wp2_with fail
  refine (markIntSS_any _ _ vs1 LL _ _ (R1'.out.ms 1) (by omega) (by omega) hl (by omega)).mono ?_; rintro e w4 ⟨rfl, r1, b4⟩
  have hz4 := b4.size
  have R1 := Lib.hid r1
  have R0' := Lib.hid (R0.out.low b4 lt0.out)
  have B4 := Lib.hid (B3.out.trans (b4.mono B1.out.size))
  clear r1 b4 R1' R0 B3
  go_wp2_with fail
  refine (heldIntSS_any _ _ vs1 LL _ _ R1.out (by omega) hl (by omega)).mono ?_; rintro e w4' ⟨rfl, rfl⟩
  go_wp2_with fail
  refine (HI.out _ (HP.out _ B4.out)).mono ?_; rintro e w5 ⟨v2, vs2, rfl, r2, b5⟩
  have R2 := Lib.hid r2
  have R1' := Lib.hid (R1.out.kept b5)
  have R0 := Lib.hid (R0'.out.kept b5)
  have hz5 := b5.size
  have B5 := Lib.hid (B4.out.trans (b5.mono B4.out.size))
  clear r2 b5 R1 R0' B4
  go_wp2_with fail
  refine (eqIntSS_same _ _ _ _ _ _ _ _ R2.out R0.out).mono ?_; rintro e w6 ⟨rfl, b6⟩
  have R1 := Lib.hid (R1'.out.kept b6)
  have B6 := Lib.hid (B5.out.trans (b6.mono B5.out.size))
  clear b6 R1' R0 B5
  go_wp2_with fail
  refine (heldIntSS_any _ _ vs1 LL _ _ R1.out (by omega) hl (by omega)).mono ?_; rintro e w6' ⟨rfl, rfl⟩
  go_wp2_with fail
  go_ret
  exact ⟨rfl, B6.out⟩
theorem FnExactGapsBetween_walk (a0 : Int) (w0 : (Lit.int .i64 a0).wf = true) (w : World) (hsh : Primes w) :
    Calls Tryd.prog 4 #[.int .i64 a0] w fun e w' => e = .returned (.bool true) ∧ Below w.heap.size w w' := by
  by_cases h : 1 ≤ a0 ∧ a0 ≤ 12
  · obtain ⟨n, rfl⟩ := Int.eq_ofNat_of_zero_le (show 0 ≤ a0 by omega)
    have hl := Tic.gps_len n n
    have ho := offs_three (Tic.gps_three n n) _ (Nat.le_refl _)
    exact FnExactGapsBetween_core _ _ (by omega) (by omega) (fun w => sGaps_yes n w (by omega) (by omega)) (fun w hp => iGaps_yes n w hp (by omega) (by omega)) w hsh
  · exact FnExactGapsBetween_core _ [] (by decide) (by decide) (fun w => sGaps_no _ w (by omega)) (fun w _ => iGaps_no _ w (by omega)) w hsh
end Go.Proofs.YtpcbplademohnaaDoor
