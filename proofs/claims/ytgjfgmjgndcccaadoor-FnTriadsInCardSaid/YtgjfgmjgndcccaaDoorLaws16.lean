/-
  The walk of the law of TriadsIn.
-/
import Derived.Test.YtgjfgmjgndcccaaDoorTriDraw
import Derived.Test.YtgjfgmjgndcccaaDoorTriTurn
import Derived.Test.YtgjfgmjgndcccaaDoorTrisNum
import Derived.Test.YtgjfgmjgndcccaaDoorEqInts
namespace Go.Proofs.YtgjfgmjgndcccaaDoor
open Go.RowKit
set_option linter.unusedVariables false

/-- a list's value by its length -/
theorem Row.form {w : World} {B : Nat} {v : Value} {L : List Int} (h : Row w B v L) : ∃ x c, v = .slice x L.length c := by
  rcases h.cases with ⟨rfl, rfl⟩ | ⟨g, c, rfl, _⟩
  · exact ⟨_, _, rfl⟩
  · exact ⟨_, _, rfl⟩

set_option maxHeartbeats 1000000 in
set_option maxRecDepth 20000 in
theorem FnTriadsIn_walk (x : Option Addr) (len cap : Nat) (w : World) (h : Code w x len cap) (hsh : Shapes w) :
    Calls Tryd.prog 3 #[.slice x len cap] w fun e w' => e = .returned (.bool true) ∧ Below w.heap.size w w' := by
  have HSH := Lib.hid hsh
  clear hsh
  by_cases hl : 1048576 < len
  · go_enter Tryd.func3, Tryd.ntmps3
    go_wp2_with fail
    go_ret
    exact ⟨rfl, Below.refl _ _⟩
  · go_enter Tryd.func3, Tryd.ntmps3
    go_wp2_with fail
    refine (drawTriadsIn _ _ _ _ h).mono ?_; rintro e w1 ⟨s, rfl, s0, s1, hb⟩
    have HB := Lib.hid hb
    clear hb h hl
    by_cases hv : Tic.Valid 12 s
    · have hlt := hv.lt
      obtain ⟨S, rfl⟩ := Int.eq_ofNat_of_zero_le hv.2.2.1
      have hS : S < 4096 := by omega
      have HV := Lib.hid hv
      have HI : Hid (∀ w, Shapes w → Calls Tryd.prog 5 #[.int .i64 S] w (Gives (Tic.trisIn S 24) w)) := Lib.hid (fun w hw => iTriadsIn_yes S w hS hw)
      have HS : Hid (∀ w, Calls Tryd.prog 7 #[.int .i64 S] w (Gives (Tic.trisIn S 24) w)) := Lib.hid (fun w => sTriadsIn_yes S w hS)
      have hx1 := Tic.shf_lt12 hv 5
      have hx2 := Tic.tur_lt12 hv 0
      rw [Int.toNat_natCast, show (12 : Int).toNat = 12 from rfl] at hx1 hx2
      have HI1 : Hid (∀ w, Shapes w → Calls Tryd.prog 5 #[.int .i64 (Tic.shf 12 5 S : Int)] w (Gives (Tic.trisIn (Tic.shf 12 5 S) 24) w)) := Lib.hid (fun w hw => iTriadsIn_yes _ w hx1 hw)
      have HI2 : Hid (∀ w, Shapes w → Calls Tryd.prog 5 #[.int .i64 (Tic.tur 12 0 S : Int)] w (Gives (Tic.trisIn (Tic.tur 12 0 S) 24) w)) := Lib.hid (fun w hw => iTriadsIn_yes _ w hx2 hw)
      have HSS : Hid (∀ w, Calls Tryd.prog 11 #[.int .i64 12, .int .i64 S, .int .i64 5] w fun e w' => e = .returned (.int .i64 (Tic.shf 12 5 S : Int)) ∧ Below w.heap.size w w') :=
        Lib.hid (fun w => iShiftSet_yes 12 S 5 w hv ⟨by omega, by omega⟩)
      have HST : Hid (∀ w, Calls Tryd.prog 12 #[.int .i64 12, .int .i64 S, .int .i64 0] w fun e w' => e = .returned (.int .i64 (Tic.tur 12 0 S : Int)) ∧ Below w.heap.size w w') :=
        Lib.hid (fun w => iTurnSet_yes 12 S 0 w hv ⟨by omega, by omega⟩)
      have HL1 := Lib.hid (Tic.tris_shf hS)
      have HL2 := Lib.hid (Tic.tris_tur hS)
      have HM := Lib.hid (Tic.trisIn_mem S)
      have HA := Lib.hid (Tic.trisIn_asc S 24)
      have hLle := Tic.trisIn_le S 24
      generalize Tic.shf 12 5 S = S1 at HI1 HSS HL1 hx1
      generalize Tic.tur 12 0 S = S2 at HI2 HST HL2 hx2
      generalize hM : Tic.trisIn S 24 = L at HI HS HL1 HL2 HA hLle
      have HML : Hid (∀ v, v ∈ L → ∃ j : Nat, j < 24 ∧ v = (j : Int) ∧ Tic.triSet j &&& S = Tic.triSet j) := Lib.hid (fun v hv => HM.out v 24 (hM ▸ hv))
      generalize Tic.trisIn S1 24 = M1 at HI1 HL1
      generalize Tic.trisIn S2 24 = M2 at HI2 HL2
      clear hM HM hv
      go_wp2_with fail
      refine (HI.out _ (HSH.out.kept HB.out)).mono ?_; rintro e w2 ⟨v1, rfl, r1, hb2⟩
      have R1 := Lib.hid r1
      have HB2 := Lib.hid (HB.out.trans (hb2.mono HB.out.size))
      clear r1 hb2 HB
      go_wp2_with fail
      refine (HS.out _).mono ?_; rintro e w3 ⟨v2, rfl, r2, hb3⟩
      have R2 := Lib.hid r2
      have R1' := Lib.hid (R1.out.kept hb3)
      have HB3 := Lib.hid (HB2.out.trans (hb3.mono HB2.out.size))
      clear r2 hb3 HB2 R1
      go_wp2_with fail
      refine (equalInts_yes _ _ _ _ _ _ R1'.out R2.out).mono ?_; rintro e w4 ⟨rfl, hb4⟩
      have R1 := Lib.hid (R1'.out.kept hb4)
      have HB4 := Lib.hid (HB3.out.trans (hb4.mono HB3.out.size))
      clear hb4 HB3 R1' R2
      go_wp2_with fail
      refine (implValid_yes _ _ _ HV.out).mono ?_; rintro e w5 ⟨rfl, rfl⟩
      have hcs := R1.out.cases
      obtain ⟨x1, c1, rfl⟩ := R1.out.form
      have HC : Hid (∀ i, i < L.length → ∃ g, x1 = some ⟨g, 0, none⟩ ∧ g < w4.heap.size ∧ w4.cell? ⟨g, i, none⟩ = some (.int .i64 (L.getD i 0))) := Lib.hid (fun i hi => by
        rcases hcs with ⟨_, e⟩ | ⟨g, c, e, _, hg, hc, _⟩
        · rw [e] at hi; cases hi
        · injection e with e1 e2 e3
          exact ⟨g, e1, hg, hc i hi⟩)
      clear hcs
      generalize hn : L.length = n at HC HL1 HL2 R1 hLle
      go_wp2
      go_loopw [5, 6] (fun t5 t6 wr => ∃ i : Nat, i ≤ n ∧ t5 = .int .i64 i ∧ Hid (Below w4.heap.size w4 wr)) (fun t5 _ _ => n - (intOf t5).toNat)
      case atStart => exact ⟨0, by omega, rfl, Lib.hid (Below.refl _ _)⟩
      case round =>
        obtain ⟨i, hi, rfl, HBR⟩ := hrel
        by_cases hlt2 : i < n
        · obtain ⟨g, rfl, hg, hc⟩ := HC.out i hlt2
          have hmem : L.getD i 0 ∈ L := by
            rw [List.getD_eq_getElem?_getD, List.getElem?_eq_getElem (by omega)]
            exact List.getElem_mem _
          obtain ⟨j, hj, e, hand⟩ := HML.out _ hmem
          rw [e] at hc
          have hc2 := (HBR.out.cell (p := ⟨g, i, none⟩) hg).trans hc
          have hT := Tic.triSet_lt (j : Int)
          have HAND : Hid (bits .and .i64 (Tic.triSet j : Int) (S : Int) = (Tic.triSet j : Int)) := by
            have := and_bits (Tic.triSet j) S hT hS
            rw [hand] at this
            exact this
          have HTS := Lib.hid (fun w hw => iTriadSet_yes (j : Int) w ⟨by omega, by omega⟩ hw)
          generalize Tic.triSet (j : Int) = T at hT HAND HTS
          clear hc hand e hmem
          go_wp2_with fail
          refine (HTS.out _ (HSH.out.kept (HB4.out.trans (HBR.out.mono HB4.out.size)))).mono ?_; rintro e w5 ⟨rfl, hb5⟩
          have HBR2 := Lib.hid (HBR.out.trans (hb5.mono HBR.out.size))
          clear hb5
          have hand := HAND.out
          go_wp2
          go_roundw
          case rel => exact ⟨i + 1, by omega, by go_num, HBR2⟩
          case measure => simp [intOf]; omega
        · obtain rfl : i = n := by omega
          have R1a := Lib.hid (R1.out.kept HBR.out)
          have HB5 := Lib.hid (HB4.out.trans (HBR.out.mono HB4.out.size))
          clear HBR HB4 R1 HC
          go_wp2_with fail
          refine (lascends_any L _ _ _ R1a.out HA.out (fun y hy => by obtain ⟨j, hj, e, _⟩ := HML.out y hy; omega)).mono ?_; rintro e w5 ⟨rfl, hb5⟩
          have HB6 := Lib.hid (HB5.out.trans (hb5.mono HB5.out.size))
          clear hb5 HB5
          go_wp2_with fail
          refine (HSS.out _).mono ?_; rintro e w6 ⟨rfl, hb6⟩
          have HB7 := Lib.hid (HB6.out.trans (hb6.mono HB6.out.size))
          clear hb6 HB6
          go_wp2_with fail
          refine (HI1.out _ (HSH.out.kept HB7.out)).mono ?_; rintro e w7 ⟨v3, rfl, r3, hb7⟩
          have HB8 := Lib.hid (HB7.out.trans (hb7.mono HB7.out.size))
          obtain ⟨x3, c3, rfl⟩ := r3.form
          rw [HL1.out]
          clear hb7 HB7 r3
          go_wp2_with fail
          refine (HST.out _).mono ?_; rintro e w8 ⟨rfl, hb8⟩
          have HB9 := Lib.hid (HB8.out.trans (hb8.mono HB8.out.size))
          clear hb8 HB8
          go_wp2_with fail
          refine (HI2.out _ (HSH.out.kept HB9.out)).mono ?_; rintro e w9 ⟨v4, rfl, r4, hb9⟩
          have HB10 := Lib.hid (HB9.out.trans (hb9.mono HB9.out.size))
          obtain ⟨x4, c4, rfl⟩ := r4.form
          rw [HL2.out]
          clear hb9 HB9 r4
          go_wp2_with fail
          go_ret
          exact ⟨rfl, HB10.out⟩
    · have HV := Lib.hid hv
      go_wp2_with fail
      refine (iTriadsIn_no _ _ HV.out).mono ?_; rintro e w2 ⟨v1, rfl, r1, hb2⟩
      have R1 := Lib.hid r1
      have HB2 := Lib.hid (HB.out.trans (hb2.mono HB.out.size))
      clear r1 hb2 HB
      go_wp2_with fail
      refine (sTriadsIn_no _ _ HV.out).mono ?_; rintro e w3 ⟨v2, rfl, r2, hb3⟩
      have R2 := Lib.hid r2
      have R1' := Lib.hid (R1.out.kept hb3)
      have HB3 := Lib.hid (HB2.out.trans (hb3.mono HB2.out.size))
      clear r2 hb3 HB2 R1
      go_wp2_with fail
      refine (equalInts_yes _ _ _ _ _ _ R1'.out R2.out).mono ?_; rintro e w4 ⟨rfl, hb4⟩
      have R1 := Lib.hid (R1'.out.kept hb4)
      have HB4 := Lib.hid (HB3.out.trans (hb4.mono HB3.out.size))
      clear hb4 HB3 R1' R2
      go_wp2_with fail
      refine (implValid_no _ _ _ HV.out).mono ?_; rintro e w5 ⟨rfl, rfl⟩
      go_wp2_with fail
      refine (sTriadsIn_no _ _ HV.out).mono ?_; rintro e w6 ⟨v3, rfl, r3, hb6⟩
      have R3 := Lib.hid r3
      have R1' := Lib.hid (R1.out.kept hb6)
      have HB6 := Lib.hid (HB4.out.trans (hb6.mono HB4.out.size))
      clear r3 hb6 HB4 R1
      go_wp2_with fail
      refine (equalInts_yes _ _ _ _ _ _ R1'.out R3.out).mono ?_; rintro e w7 ⟨rfl, hb7⟩
      have HB7 := Lib.hid (HB6.out.trans (hb7.mono HB6.out.size))
      go_wp2_with fail
      go_ret
      exact ⟨rfl, HB7.out⟩

end Go.Proofs.YtgjfgmjgndcccaaDoor
