/-
  The walk of the exact law of GapsOf.
-/
import Derived.Test.YtjppinifaiebdaaGaps
namespace Go.Proofs.Ytjppinifaiebdaa
open Go.RowKit
set_option linter.unusedVariables false

set_option maxHeartbeats 400000 in
theorem FnExactGapsOf_core (a0 a1 : Int) (L : List Int) (hs : ∀ w, Calls Try.prog 25 #[.int .i64 a0, .int .i64 a1] w (Gives L w)) (hi : ∀ w, Calls Try.prog 17 #[.int .i64 a0, .int .i64 a1] w (Gives L w)) (w : World) :
    Calls Try.prog 10 #[.int .i64 a0, .int .i64 a1] w fun e w' => e = .returned (.bool true) ∧ Below w.heap.size w w' := by
  have HS := Lib.hid hs
  have HI := Lib.hid hi
  clear hs hi
  go_enter Try.func10, Try.ntmps10
  go_wp2_with fail
  refine (HS.out _).mono ?_; rintro e w1 ⟨v0, rfl, r0, b1⟩
  have lt0 := Lib.hid (fun k hk => (r0.lt k hk).2)
  have R0 := Lib.hid r0
  have B1 := Lib.hid b1
  clear r0 b1
  go_wp2_with fail
  refine (HI.out _).mono ?_; rintro e w2 ⟨v1, rfl, r1, b2⟩
  have R1 := Lib.hid r1
  have R0' := Lib.hid (R0.out.kept b2)
  have hz2 := b2.size
  have B2 := Lib.hid (B1.out.trans (b2.mono B1.out.size))
  clear r1 b2 R0
  go_wp2_with fail
  refine (eqIntS_same _ _ _ _ _ _ R1.out R0'.out).mono ?_; rintro e w3 ⟨rfl, b3⟩
  have R1' := Lib.hid (R1.out.kept b3)
  have R0 := Lib.hid (R0'.out.kept b3)
  have hz3 := b3.size
  have B3 := Lib.hid (B2.out.trans (b3.mono B2.out.size))
  clear b3 R1 R0' B2
  go_wp2_with fail
  refine (markIntS_any _ _ _ _ _ R1'.out (by omega) (by omega) (by omega)).mono ?_; rintro e w4 ⟨rfl, r1, b4⟩
  have hz4 := b4.size
  have R1 := Lib.hid r1
  have R0' := Lib.hid (R0.out.low b4 lt0.out)
  have B4 := Lib.hid (B3.out.trans (b4.mono B1.out.size))
  clear r1 b4 R1' R0 B3
  go_wp2_with fail
  refine (held_marked _ _ _ _ _ R1.out (by omega) (by omega)).mono ?_; rintro e w4' ⟨rfl, rfl⟩
  go_wp2_with fail
  refine (HI.out _).mono ?_; rintro e w5 ⟨v2, rfl, r2, b5⟩
  have R2 := Lib.hid r2
  have R1' := Lib.hid (R1.out.kept b5)
  have R0 := Lib.hid (R0'.out.kept b5)
  have hz5 := b5.size
  have B5 := Lib.hid (B4.out.trans (b5.mono B4.out.size))
  clear r2 b5 R1 R0' B4
  go_wp2_with fail
  refine (eqIntS_same _ _ _ _ _ _ R2.out R0.out).mono ?_; rintro e w6 ⟨rfl, b6⟩
  have R1 := Lib.hid (R1'.out.kept b6)
  have B6 := Lib.hid (B5.out.trans (b6.mono B5.out.size))
  clear b6 R1' R0 B5
  go_wp2_with fail
  refine (held_marked _ _ _ _ _ R1.out (by omega) (by omega)).mono ?_; rintro e w6' ⟨rfl, rfl⟩
  go_wp2_with fail
  go_ret
  exact ⟨rfl, B6.out⟩

theorem FnExactGapsOf_walk (a0 a1 : Int) (w0 : (Lit.int .i64 a0).wf = true) (w1 : (Lit.int .i64 a1).wf = true) (w : World) :
    Calls Try.prog 10 #[.int .i64 a0, .int .i64 a1] w fun e w' => e = .returned (.bool true) ∧ Below w.heap.size w w' := by
  by_cases h : Tic.Valid a0 a1
  · exact FnExactGapsOf_core _ _ _ (fun w => sGapsOf_yes _ _ w h) (fun w => iGapsOf_yes _ _ w h) w
  · exact FnExactGapsOf_core _ _ _ (fun w => sGapsOf_no _ _ w h) (fun w => iGapsOf_no _ _ w h) w

end Go.Proofs.Ytjppinifaiebdaa
