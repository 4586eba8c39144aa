/-
  The walks of the exact laws of PowersOf and IntoOctave.
-/
import Derived.Test.YtfchideohinifaaDoorPowOf2
import Derived.Test.YtfchideohinifaaDoorInto2
import Derived.Test.YtfchideohinifaaDoorExact6A
namespace Go.Proofs.YtfchideohinifaaDoor
open Go.RowKit
set_option linter.unusedVariables false

set_option maxHeartbeats 400000 in
theorem FnExactPowersOf_core (a0 a1 : Int) (L : List Int) (ok : Bool) (hs : ∀ w, Calls Tryd.prog 15 #[.int .i64 a0, .int .i64 a1] w (GivesOk L ok w)) (hi : ∀ w, Tabs w → Calls Tryd.prog 16 #[.int .i64 a0, .int .i64 a1] w (GivesOk L ok w)) (w : World) (hsh : Tabs w) :
    Calls Tryd.prog 4 #[.int .i64 a0, .int .i64 a1] w fun e w' => e = .returned (.bool true) ∧ Below w.heap.size w w' := by
  have HS := Lib.hid hs
  have HI := Lib.hid hi
  clear hs hi
  have HSH := Lib.hid hsh
  clear hsh
  cases ok <;>
  · go_enter Tryd.func4, Tryd.ntmps4
    go_wp2_with fail
    refine (HS.out _).mono ?_; rintro e w1 ⟨v0, rfl, r0, b1⟩
    have lt0 := Lib.hid (fun k hk => (r0.lt k hk).2)
    have R0 := Lib.hid r0
    have B1 := Lib.hid b1
    clear r0 b1
    go_wp2_with fail
    refine (HI.out _ (HSH.out.kept B1.out)).mono ?_; rintro e w2 ⟨v1, rfl, r1, b2⟩
    have R1 := Lib.hid r1
    have R0' := Lib.hid (R0.out.kept b2)
    have hz2 := b2.size
    have B2 := Lib.hid (B1.out.trans (b2.mono B1.out.size))
    clear r1 b2 R0
    go_wp2_with fail
    refine (eqIntS_same _ _ _ _ _ _ R1.out R0'.out).mono ?_; rintro e w3 ⟨rfl, b3⟩
    have R1' := Lib.hid (R1.out.kept b3)
    have R0 := Lib.hid (R0'.out.kept b3)
    have hz3 := b3.size
    have B3 := Lib.hid (B2.out.trans (b3.mono B2.out.size))
    clear b3 R1 R0' B2
    go_wp2_with fail
    refine (markIntS_any _ _ _ _ _ R1'.out (by omega) (by omega) (by omega)).mono ?_; rintro e w4 ⟨rfl, r1, b4⟩
    have hz4 := b4.size
    have R1 := Lib.hid r1
    have R0' := Lib.hid (R0.out.low b4 lt0.out)
    have B4 := Lib.hid (B3.out.trans (b4.mono B1.out.size))
    clear r1 b4 R1' R0 B3
    go_wp2_with fail
    refine (held_marked _ _ _ _ _ R1.out (by omega) (by omega)).mono ?_; rintro e w4' ⟨rfl, rfl⟩
    go_wp2_with fail
    refine (HI.out _ (HSH.out.kept B4.out)).mono ?_; rintro e w5 ⟨v2, rfl, r2, b5⟩
    have R2 := Lib.hid r2
    have R1' := Lib.hid (R1.out.kept b5)
    have R0 := Lib.hid (R0'.out.kept b5)
    have hz5 := b5.size
    have B5 := Lib.hid (B4.out.trans (b5.mono B4.out.size))
    clear r2 b5 R1 R0' B4
    go_wp2_with fail
    refine (eqIntS_same _ _ _ _ _ _ R2.out R0.out).mono ?_; rintro e w6 ⟨rfl, b6⟩
    have R1 := Lib.hid (R1'.out.kept b6)
    have B6 := Lib.hid (B5.out.trans (b6.mono B5.out.size))
    clear b6 R1' R0 B5
    go_wp2_with fail
    refine (held_marked _ _ _ _ _ R1.out (by omega) (by omega)).mono ?_; rintro e w6' ⟨rfl, rfl⟩
    go_wp2_with fail
    go_ret
    exact ⟨rfl, B6.out⟩
theorem FnExactPowersOf_walk (a0 a1 : Int) (w0 : (Lit.int .i64 a0).wf = true) (w1 : (Lit.int .i64 a1).wf = true) (w : World) (hsh : Tabs w) :
    Calls Tryd.prog 4 #[.int .i64 a0, .int .i64 a1] w fun e w' => e = .returned (.bool true) ∧ Below w.heap.size w w' :=
  FnExactPowersOf_core a0 a1 _ _ (fun w => sPowers_all a0 a1 w) (fun w h => iPowers_all a0 a1 w h.1 h.2) w hsh
set_option maxHeartbeats 800000 in
theorem FnExactIntoOctave_walk (v : Value) (L : List Int) (w : World) (hc : Came w v L) (hsh : Tabs w) :
    Calls Tryd.prog 5 #[v] w fun e w' => e = .returned (.bool true) ∧ Below w.heap.size w w' := by
  obtain ⟨p, m, hv, h1, h2, _⟩ := id hc
  by_cases hl : L.length ≤ 1048576
  · have HC := Lib.hid hc
    have HSH := Lib.hid hsh
    have HT := Lib.hid (fun w hw => toIntS_any v L w hw hl)
    have HS := Lib.hid (fun v B w hr => sInto_all v B L w hr)
    have HI := Lib.hid (fun v B w (hs : Tabs w) hr => iInto_all v B L w hs.1 hs.2 hr)
    unfold GivesInto at HS HI
    generalize (into L).getD [] = M at HS HI
    generalize (into L).isSome = ok at HS HI
    subst hv
    clear hc hsh
    cases ok <;>
    · go_enter Tryd.func5, Tryd.ntmps5
      go_wp2_with fail
      refine (HT.out _ HC.out).mono ?_; rintro e w1 ⟨vi, rfl, hr, hb⟩
      have B0 := Lib.hid hb
      go_wp2_with fail
      refine (HS.out _ _ _ hr).mono ?_; rintro e w2 ⟨v0, rfl, r0, b1⟩
      have lt0 := Lib.hid (fun k hk => (r0.lt k hk).2)
      have R0 := Lib.hid r0
      have B1 := Lib.hid (B0.out.trans (b1.mono B0.out.size))
      have B2z := B1.out.size
      clear r0 b1 hr hb B0
      -- the copy x0
      go_wp2_with fail
      refine (HT.out _ (HC.out.kept B1.out)).mono ?_; rintro e w3 ⟨vx, rfl, hr, hb⟩
      have ltx := Lib.hid (fun k hk => (hr.lt k hk))
      have X := Lib.hid hr
      have R0' := Lib.hid (R0.out.kept hb)
      have hz0 := hb.size
      have B2 := Lib.hid (B1.out.trans (hb.mono B1.out.size))
      clear hr hb B1 R0
      go_wp2_with fail
      refine (HI.out _ _ _ (HSH.out.kept B2.out) X.out).mono ?_; rintro e w4 ⟨v1, rfl, r1, b2⟩
      have R1 := Lib.hid r1
      have lt1 := Lib.hid (fun k hk => (r1.lt k hk))
      have R0 := Lib.hid (R0'.out.kept b2)
      have X1 := Lib.hid (X.out.kept b2)
      have hz2 := b2.size
      have B3 := Lib.hid (B2.out.trans (b2.mono B2.out.size))
      clear r1 b2 R0' X B2
      go_wp2_with fail
      refine (eqIntS_same _ _ _ _ _ _ R1.out R0.out).mono ?_; rintro e w5 ⟨rfl, b3⟩
      have R1' := Lib.hid (R1.out.kept b3)
      have R0' := Lib.hid (R0.out.kept b3)
      have X2 := Lib.hid (X1.out.kept b3)
      have hz3 := b3.size
      have B4 := Lib.hid (B3.out.trans (b3.mono B3.out.size))
      clear b3 R1 R0 X1 B3
      go_wp2_with fail
      refine (HT.out _ (HC.out.kept B4.out)).mono ?_; rintro e w6 ⟨vy, rfl, hr, hb⟩
      have Y := Lib.hid hr
      have R1 := Lib.hid (R1'.out.kept hb)
      have R0 := Lib.hid (R0'.out.kept hb)
      have X3 := Lib.hid (X2.out.kept hb)
      have hz4 := hb.size
      have B5 := Lib.hid (B4.out.trans (hb.mono B4.out.size))
      clear hr hb R1' R0' X2 B4
      go_wp2_with fail
      refine (eqIntS_same _ _ _ _ _ _ X3.out Y.out).mono ?_; rintro e w7 ⟨rfl, b3⟩
      have R1' := Lib.hid (R1.out.kept b3)
      have R0' := Lib.hid (R0.out.kept b3)
      have X4 := Lib.hid (X3.out.kept b3)
      have hz5 := b3.size
      have B6 := Lib.hid (B5.out.trans (b3.mono B5.out.size))
      clear b3 R1 R0 X3 Y B5
      go_wp2_with fail
      refine (markIntS_only _ _ _ _ _ X4.out (by omega) (by omega)).mono ?_; rintro e w8 ⟨rfl, hg⟩
      have hz6 := hg.size
      have R1 := Lib.hid (R1'.out.besides hg (fun k hk e => by have h1 := lt1.out k hk; have h2 := ltx.out k e; omega))
      have R0 := Lib.hid (R0'.out.besides hg (fun k hk e => by have h1 := lt0.out k hk; have h2 := ltx.out k e; omega))
      have B7 := Lib.hid (B6.out.grown hg B6.out.size (fun k hk => by have h2 := ltx.out k hk; have := B2z; omega))
      clear hg R1' R0' X4 B6
      go_wp2_with fail
      refine (eqIntS_same _ _ _ _ _ _ R1.out R0.out).mono ?_; rintro e w9 ⟨rfl, b3⟩
      have R1' := Lib.hid (R1.out.kept b3)
      have R0' := Lib.hid (R0.out.kept b3)
      have hz7 := b3.size
      have B8 := Lib.hid (B7.out.trans (b3.mono B7.out.size))
      clear b3 R1 R0 B7
      go_wp2_with fail
      refine (markIntS_any _ _ _ _ _ R1'.out (by omega) (by omega) (by omega)).mono ?_; rintro e w10 ⟨rfl, r1, b4⟩
      have hz8 := b4.size
      have R1 := Lib.hid r1
      have R0 := Lib.hid (R0'.out.low b4 (fun k hk => by have := lt0.out k hk; omega))
      have B9 := Lib.hid (B8.out.trans (b4.mono (by omega)))
      clear r1 b4 R1' R0' B8
      go_wp2_with fail
      refine (held_marked _ _ _ _ _ R1.out (by omega) (by omega)).mono ?_; rintro e w11 ⟨rfl, rfl⟩
      go_wp2_with fail
      refine (HT.out _ (HC.out.kept B9.out)).mono ?_; rintro e w12 ⟨vz, rfl, hr, hb⟩
      have Z := Lib.hid hr
      have R1' := Lib.hid (R1.out.kept hb)
      have R0' := Lib.hid (R0.out.kept hb)
      have hz9 := hb.size
      have B10 := Lib.hid (B9.out.trans (hb.mono B9.out.size))
      clear hr hb R1 R0 B9
      go_wp2_with fail
      refine (HI.out _ _ _ (HSH.out.kept B10.out) Z.out).mono ?_; rintro e w13 ⟨v2, rfl, r2, b5⟩
      have R2 := Lib.hid r2
      have R1 := Lib.hid (R1'.out.kept b5)
      have R0 := Lib.hid (R0'.out.kept b5)
      have hz10 := b5.size
      have B11 := Lib.hid (B10.out.trans (b5.mono B10.out.size))
      clear r2 b5 R1' R0' B10 Z
      go_wp2_with fail
      refine (eqIntS_same _ _ _ _ _ _ R2.out R0.out).mono ?_; rintro e w14 ⟨rfl, b6⟩
      have R1' := Lib.hid (R1.out.kept b6)
      have B12 := Lib.hid (B11.out.trans (b6.mono B11.out.size))
      clear b6 R1 R0 B11
      go_wp2_with fail
      refine (held_marked _ _ _ _ _ R1'.out (by omega) (by omega)).mono ?_; rintro e w15 ⟨rfl, rfl⟩
      go_wp2_with fail
      go_ret
      exact ⟨rfl, B12.out⟩
  · subst hv
    generalize L.length = n at *
    clear hc
    go_enter Tryd.func5, Tryd.ntmps5
    go_wp2
    go_ret
    exact ⟨rfl, Below.refl _ _⟩
end Go.Proofs.YtfchideohinifaaDoor
