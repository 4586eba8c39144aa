/-
  The walks of the exact laws of TriadSet, TriadOf, TurnTriad and TriadsIn.
-/
import Derived.Test.YtclcljkaeloagaaDoorTriTurn
namespace Go.Proofs.YtclcljkaeloagaaDoor
open Go.RowKit
set_option linter.unusedVariables false

theorem FnExactTriadSet_walk (a0 : Int) (w0 : (Lit.int .i64 a0).wf = true) (w : World) (hsh : Shapes w) :
    Calls Tryd.prog 3 #[.int .i64 a0] w fun e w' => e = .returned (.bool true) ∧ Below w.heap.size w w' := by
  have HSH := Lib.hid hsh
  clear hsh
  by_cases h : Tic.Tri a0
  · obtain ⟨n, hn, rfl⟩ := Tic.tri_nat h
    go_enter Tryd.func3, Tryd.ntmps3
    go_wp2_with fail
    refine (sTriadSet_yes _ _ hn).mono ?_; rintro e w1 ⟨rfl, rfl⟩
    go_wp2_with fail
    refine (iTriadSet_yes _ _ h HSH.out).mono ?_; rintro e w1 ⟨rfl, hb⟩
    go_wp2_with fail
    go_ret
    exact ⟨ret_bool (by simp), hb⟩
  · go_enter Tryd.func3, Tryd.ntmps3
    go_wp2_with fail
    refine (sTriadSet_no _ _ h).mono ?_; rintro e w1 ⟨rfl, rfl⟩
    go_wp2_with fail
    refine (iTriadSet_no _ _ h).mono ?_; rintro e w1 ⟨rfl, rfl⟩
    go_wp2_with fail
    go_ret
    exact ⟨rfl, Below.refl _ _⟩
theorem FnExactTriadOf_walk (a0 : Int) (w0 : (Lit.int .i64 a0).wf = true) (w : World) (hsh : Shapes w) :
    Calls Tryd.prog 4 #[.int .i64 a0] w fun e w' => e = .returned (.bool true) ∧ Below w.heap.size w w' := by
  have HSH := Lib.hid hsh
  clear hsh
  have HS := Lib.hid (fun w => sTriadOf_any a0 w)
  have HI := Lib.hid (fun w => iTriadOf_any a0 w)
  generalize Tic.triOf a0 = o at HS HI
  unfold ofV at HS HI
  generalize ((o.getD 0 : Nat) : Int) = x at HS HI
  generalize o.isSome = b at HS HI
  go_enter Tryd.func4, Tryd.ntmps4
  go_wp2_with fail
  refine (HS.out _).mono ?_; rintro e w1 ⟨rfl, rfl⟩
  go_wp2_with fail
  refine (HI.out _ HSH.out).mono ?_; rintro e w1 ⟨rfl, hb⟩
  cases b <;>
  · go_wp2_with fail
    go_ret
    exact ⟨rfl, hb⟩
theorem FnExactTurnTriad_walk (a0 a1 : Int) (w0 : (Lit.int .i64 a0).wf = true) (w1 : (Lit.int .i64 a1).wf = true) (w : World) (hsh : Shapes w) :
    Calls Tryd.prog 5 #[.int .i64 a0, .int .i64 a1] w fun e w' => e = .returned (.bool true) ∧ Below w.heap.size w w' := by
  have HSH := Lib.hid hsh
  clear hsh
  by_cases h : Tic.Tri a0 ∧ Tic.Turn a1
  · obtain ⟨n, hn, rfl⟩ := Tic.tri_nat h.1
    go_enter Tryd.func5, Tryd.ntmps5
    go_wp2_with fail
    refine (sTurnTriad_yes _ _ _ hn h.2).mono ?_; rintro e w1 ⟨rfl, rfl⟩
    go_wp2_with fail
    refine (iTurnTriad_yes _ _ _ hn h.2 HSH.out).mono ?_; rintro e w1 ⟨rfl, hb⟩
    go_wp2_with fail
    go_ret
    exact ⟨ret_bool (by simp), hb⟩
  · go_enter Tryd.func5, Tryd.ntmps5
    go_wp2_with fail
    refine (sTurnTriad_no _ _ _ h).mono ?_; rintro e w1 ⟨rfl, rfl⟩
    go_wp2_with fail
    refine (iTurnTriad_no _ _ _ h).mono ?_; rintro e w1 ⟨rfl, rfl⟩
    go_wp2_with fail
    go_ret
    exact ⟨rfl, Below.refl _ _⟩
set_option maxHeartbeats 400000 in
theorem FnExactTriadsIn_core (a0 : Int) (L : List Int) (hs : ∀ w, Calls Tryd.prog 13 #[.int .i64 a0] w (Gives L w)) (hi : ∀ w, Shapes w → Calls Tryd.prog 14 #[.int .i64 a0] w (Gives L w)) (w : World) (hsh : Shapes w) :
    Calls Tryd.prog 6 #[.int .i64 a0] w fun e w' => e = .returned (.bool true) ∧ Below w.heap.size w w' := by
  have HS := Lib.hid hs
  have HI := Lib.hid hi
  clear hs hi
  have HSH := Lib.hid hsh
  clear hsh
  go_enter Tryd.func6, Tryd.ntmps6
  go_wp2_with fail
  refine (HS.out _).mono ?_; rintro e w1 ⟨v0, rfl, r0, b1⟩
  have lt0 := Lib.hid (fun k hk => (r0.lt k hk).2)
  have R0 := Lib.hid r0
  have B1 := Lib.hid b1
  clear r0 b1
  go_wp2_with fail
  refine (HI.out _ (HSH.out.kept B1.out)).mono ?_; rintro e w2 ⟨v1, rfl, r1, b2⟩
  have R1 := Lib.hid r1
  have R0' := Lib.hid (R0.out.kept b2)
  have hz2 := b2.size
  have B2 := Lib.hid (B1.out.trans (b2.mono B1.out.size))
  clear r1 b2 R0
  go_wp2_with fail
  refine (eqIntS_same _ _ _ _ _ _ R1.out R0'.out).mono ?_; rintro e w3 ⟨rfl, b3⟩
  have R1' := Lib.hid (R1.out.kept b3)
  have R0 := Lib.hid (R0'.out.kept b3)
  have hz3 := b3.size
  have B3 := Lib.hid (B2.out.trans (b3.mono B2.out.size))
  clear b3 R1 R0' B2
  go_wp2_with fail
  refine (markIntS_any _ _ _ _ _ R1'.out (by omega) (by omega) (by omega)).mono ?_; rintro e w4 ⟨rfl, r1, b4⟩
  have hz4 := b4.size
  have R1 := Lib.hid r1
  have R0' := Lib.hid (R0.out.low b4 lt0.out)
  have B4 := Lib.hid (B3.out.trans (b4.mono B1.out.size))
  clear r1 b4 R1' R0 B3
  go_wp2_with fail
  refine (held_marked _ _ _ _ _ R1.out (by omega) (by omega)).mono ?_; rintro e w4' ⟨rfl, rfl⟩
  go_wp2_with fail
  refine (HI.out _ (HSH.out.kept B4.out)).mono ?_; rintro e w5 ⟨v2, rfl, r2, b5⟩
  have R2 := Lib.hid r2
  have R1' := Lib.hid (R1.out.kept b5)
  have R0 := Lib.hid (R0'.out.kept b5)
  have hz5 := b5.size
  have B5 := Lib.hid (B4.out.trans (b5.mono B4.out.size))
  clear r2 b5 R1 R0' B4
  go_wp2_with fail
  refine (eqIntS_same _ _ _ _ _ _ R2.out R0.out).mono ?_; rintro e w6 ⟨rfl, b6⟩
  have R1 := Lib.hid (R1'.out.kept b6)
  have B6 := Lib.hid (B5.out.trans (b6.mono B5.out.size))
  clear b6 R1' R0 B5
  go_wp2_with fail
  refine (held_marked _ _ _ _ _ R1.out (by omega) (by omega)).mono ?_; rintro e w6' ⟨rfl, rfl⟩
  go_wp2_with fail
  go_ret
  exact ⟨rfl, B6.out⟩

theorem FnExactTriadsIn_walk (a0 : Int) (w0 : (Lit.int .i64 a0).wf = true) (w : World) (hsh : Shapes w) :
    Calls Tryd.prog 6 #[.int .i64 a0] w fun e w' => e = .returned (.bool true) ∧ Below w.heap.size w w' := by
  by_cases h : Tic.Valid 12 a0
  · have hl := h.lt
    obtain ⟨S, rfl⟩ := Int.eq_ofNat_of_zero_le h.2.2.1
    exact FnExactTriadsIn_core _ _ (fun w => sTriadsIn_yes S w (by omega)) (fun w hw => iTriadsIn_yes S w (by omega) hw) w hsh
  · exact FnExactTriadsIn_core _ _ (fun w => sTriadsIn_no _ w h) (fun w _ => iTriadsIn_no _ w h) w hsh
end Go.Proofs.YtclcljkaeloagaaDoor
