/-
  The walks of the laws of PowersOf, IntoOctave and StepsBy.
-/
import Derived.Test.YtlbmjpkkomdhhaaDoorLaws22
namespace Go.Proofs.YtlbmjpkkomdhhaaDoor
open Go.RowKit
set_option linter.unusedVariables false
set_option maxRecDepth 20000

set_option maxHeartbeats 1000000 in
theorem FnPowersOf_walk (x : Option Addr) (len cap : Nat) (w : World) (h : Code w x len cap) (hsh : Tabs w) :
    Calls Tryd.prog 4 #[.slice x len cap] w fun e w' => e = .returned (.bool true) ∧ Below w.heap.size w w' := by
  by_cases hl : len ≤ 1048576
  · have HD := Lib.hid (drawPowersOf x len cap w h)
    have HSH := Lib.hid hsh
    clear h hsh
    go_enter Tryd.func4, Tryd.ntmps4
    go_wp2_with fail
    refine HD.out.mono ?_; rintro e w1 ⟨u, d, rfl, hb⟩
    have HB := Lib.hid hb
    clear hb
    have HI := Lib.hid (iPowers_all u d w1 (HSH.out.kept HB.out).1 (HSH.out.kept HB.out).2)
    have HS := Lib.hid (fun w => sPowers_all u d w)
    by_cases ht : 1 ≤ u ∧ u ≤ 1000000 ∧ 1 ≤ d ∧ d ≤ 1000000 ∧ Tic.Told u.toNat d.toNat
    · obtain ⟨u1, u2, d1, d2, hto⟩ := ht
      obtain ⟨U, rfl⟩ := Int.eq_ofNat_of_zero_le (show 0 ≤ u by omega)
      obtain ⟨D, rfl⟩ := Int.eq_ofNat_of_zero_le (show 0 ≤ d by omega)
      rw [Int.toNat_natCast, Int.toNat_natCast] at hto
      have n1 : Tic.Num U := ⟨by omega, by omega⟩
      have n2 : Tic.Num D := ⟨by omega, by omega⟩
      have et : tolds (U : Int) (D : Int) = some [Tic.pwa U D, Tic.pwb U D, Tic.pwc U D] := (tolds_num n1 n2).trans (if_pos hto)
      rw [et] at HI HS
      unfold GivesInto at HI HS
      simp only [Option.getD_some, Option.isSome_some] at HI HS
      obtain ⟨c1, c2, c3⟩ := Tic.told_cross n1 n2 hto.1
      have hpw := hto.2
      have HR := Lib.hid (fun v B w hs hr => (ratLV_yes hpw) ▸ iRatioOf_all v B [Tic.pwa U D, Tic.pwb U D, Tic.pwc U D] w hs hr)
      unfold ratV at HR
      clear et hto n1 n2
      generalize Tic.pwa U D = a at *
      generalize Tic.pwb U D = b at *
      generalize Tic.pwc U D = c at *
      have hup := Tic.rup_pos a b c
      have hdp := Tic.rdn_pos a b c
      generalize Tic.rup a b c = X at *
      generalize Tic.rdn a b c = Y at *
      obtain ⟨p, hp⟩ : ∃ p, p = X * D := ⟨_, rfl⟩
      have hpl : p ≤ 1000000 * 1000000 := by rw [hp]; exact Nat.mul_le_mul (by omega) (by omega)
      have e1 : (X : Int) * (D : Int) = (p : Int) := by rw [hp, Int.natCast_mul]
      have e2 : (Y : Int) * (U : Int) = (p : Int) := by rw [hp, c1, Int.natCast_mul]
      have E1 := Lib.hid e1
      have E2 := Lib.hid e2
      have w1' := IntWalk.i64_in (p : Int) (by omega)
      clear e1 e2 hp c1 hpw
      go_wp2_with fail
      refine HI.out.mono ?_; rintro e w2 ⟨v, rfl, hr, hb⟩
      have R2 := Lib.hid hr
      have HB2 := Lib.hid (HB.out.trans (hb.mono HB.out.size))
      clear hr hb HB HI
      go_wp2_with fail
      refine (HS.out _).mono ?_; rintro e w3 ⟨v', rfl, hr, hb⟩
      have R3 := Lib.hid (R2.out.kept hb)
      have S3 := Lib.hid hr
      have HB3 := Lib.hid (HB2.out.trans (hb.mono HB2.out.size))
      clear hr hb HB2 R2
      go_wp2_with fail
      refine (equalInts_yes _ _ _ _ _ _ R3.out S3.out).mono ?_; rintro e w4 ⟨rfl, hb⟩
      have R4 := Lib.hid (R3.out.kept hb)
      have HB4 := Lib.hid (HB3.out.trans (hb.mono HB3.out.size))
      clear hb HB3 R3 S3
      go_wp2_with fail
      refine (HR.out _ _ _ (HSH.out.kept HB4.out).1 (HSH.out.kept HB4.out).2 R4.out).mono ?_; rintro e w5 ⟨rfl, hb⟩
      have hB := HB4.out.trans (hb.mono HB4.out.size)
      clear hb
      have e1 := E1.out
      have e2 := E2.out
      go_wp2_with fail
      go_ret
      exact ⟨rfl, hB⟩
    · have et : tolds u d = none := by unfold tolds; rw [if_neg ht]
      rw [et] at HI HS
      unfold GivesInto at HI HS
      simp only [Option.getD_none, Option.isSome_none] at HI HS
      clear ht et
      go_wp2_with fail
      refine HI.out.mono ?_; rintro e w2 ⟨v, rfl, hr, hb⟩
      have R2 := Lib.hid hr
      have HB2 := Lib.hid (HB.out.trans (hb.mono HB.out.size))
      clear hr hb HB HI
      go_wp2_with fail
      refine (HS.out _).mono ?_; rintro e w3 ⟨v', rfl, hr, hb⟩
      have R3 := Lib.hid (R2.out.kept hb)
      have S3 := Lib.hid hr
      have HB3 := Lib.hid (HB2.out.trans (hb.mono HB2.out.size))
      clear hr hb HB2 R2
      go_wp2_with fail
      refine (equalInts_yes _ _ _ _ _ _ R3.out S3.out).mono ?_; rintro e w4 ⟨rfl, hb⟩
      have R4 := Lib.hid (R3.out.kept hb)
      have S4 := Lib.hid (S3.out.kept hb)
      have HB4 := Lib.hid (HB3.out.trans (hb.mono HB3.out.size))
      clear hb HB3 R3 S3
      go_wp2_with fail
      refine (equalInts_yes _ _ _ _ _ _ R4.out S4.out).mono ?_; rintro e w5 ⟨rfl, hb⟩
      have hB := HB4.out.trans (hb.mono HB4.out.size)
      go_wp2_with fail
      go_ret
      exact ⟨rfl, hB⟩
  · clear h
    go_enter Tryd.func4, Tryd.ntmps4
    go_wp2
    go_ret
    exact ⟨rfl, Below.refl _ _⟩
set_option maxHeartbeats 1000000 in
theorem FnIntoOctave_walk (x : Option Addr) (len cap : Nat) (w : World) (h : Code w x len cap) (hsh : Tabs w) :
    Calls Tryd.prog 5 #[.slice x len cap] w fun e w' => e = .returned (.bool true) ∧ Below w.heap.size w w' := by
  by_cases hl : len ≤ 1048576
  · have HD := Lib.hid (drawIntoOctave x len cap w h)
    have HSH := Lib.hid hsh
    clear h hsh
    go_enter Tryd.func5, Tryd.ntmps5
    go_wp2_with fail
    refine HD.out.mono ?_; rintro e w1 ⟨ve, L, rfl, hL, hr, hb⟩
    have HB := Lib.hid hb
    have HE := Lib.hid hr
    clear hb hr
    have HI := Lib.hid (iInto_all ve _ L w1 (HSH.out.kept HB.out).1 (HSH.out.kept HB.out).2 HE.out)
    have HS := Lib.hid (fun v B w hr => sInto_all v B L w hr)
    by_cases ht : ∃ a b c, L = [a, b, c] ∧ Tic.Pws a b c ∧ -24 ≤ Tic.oct b c ∧ Tic.oct b c ≤ 24
    · obtain ⟨a, b, c, rfl, hpw, ho⟩ := ht
      have et := into_yes hpw ho
      have h35 := hpw.p35
      have hpo : Tic.Pws (Tic.oct b c) b c := ⟨ho.1, ho.2, h35⟩
      have et2 := into_yes hpo ho
      rw [et] at HI HS
      have hlt := (Tic.oct_lt h35 (Tic.oct b c))
      have hge := (Tic.oct_ge h35 (Tic.oct b c))
      have x1 : Tic.rdn (Tic.oct b c) b c ≤ Tic.rup (Tic.oct b c) b c := by
        rcases Nat.lt_or_ge (Tic.rup (Tic.oct b c) b c) (Tic.rdn (Tic.oct b c) b c) with hh | hh
        · have := hlt.1 hh; omega
        · exact hh
      have x2 : Tic.rup (Tic.oct b c) b c < 2 * Tic.rdn (Tic.oct b c) b c := by
        rcases Nat.lt_or_ge (Tic.rup (Tic.oct b c) b c) (2 * Tic.rdn (Tic.oct b c) b c) with hh | hh
        · exact hh
        · have := hge.1 hh; omega
      have x3 := hpo.rup_lt
      have x4 := hpo.rdn_lt
      have HRT := Lib.hid (fun v B w hs hr => (ratLV_yes hpo) ▸ iRatioOf_all v B [Tic.oct b c, b, c] w hs hr)
      unfold ratV at HRT
      have HI2 := Lib.hid (fun v B w hs hp hr => iInto_all v B [Tic.oct b c, b, c] w hs hp hr)
      rw [et2] at HI2
      unfold GivesInto at HI HS HI2
      simp only [Option.getD_some, Option.isSome_some] at HI HS HI2
      clear et et2 hlt hge hpo hpw h35 ho
      generalize Tic.rup (Tic.oct b c) b c = X at *
      generalize Tic.rdn (Tic.oct b c) b c = Y at *
      generalize Tic.oct b c = o at *
      go_wp2_with fail
      refine HI.out.mono ?_; rintro e w2 ⟨v, rfl, hr, hb⟩
      have R2 := Lib.hid hr
      have E2 := Lib.hid (HE.out.kept hb)
      have B2 := Lib.hid (HB.out.trans (hb.mono HB.out.size))
      clear hr hb HB HI HE
      go_wp2_with fail
      refine (HS.out _ _ _ E2.out).mono ?_; rintro e w3 ⟨v', rfl, hr, hb⟩
      have R3 := Lib.hid (R2.out.kept hb)
      have E3 := Lib.hid (E2.out.kept hb)
      have S3 := Lib.hid hr
      have B3 := Lib.hid (B2.out.trans (hb.mono B2.out.size))
      clear hr hb B2 R2 E2
      go_wp2_with fail
      refine (equalInts_yes _ _ _ _ _ _ R3.out S3.out).mono ?_; rintro e w4 ⟨rfl, hb⟩
      have R4 := Lib.hid (R3.out.kept hb)
      have E4 := Lib.hid (E3.out.kept hb)
      have B4 := Lib.hid (B3.out.trans (hb.mono B3.out.size))
      clear hb B3 R3 S3 E3
      go_wp2_with fail
      refine (HRT.out _ _ _ (HSH.out.kept B4.out).1 (HSH.out.kept B4.out).2 R4.out).mono ?_; rintro e w5 ⟨rfl, hb⟩
      have R5 := Lib.hid (R4.out.kept hb)
      have E5 := Lib.hid (E4.out.kept hb)
      have B5 := Lib.hid (B4.out.trans (hb.mono B4.out.size))
      clear hb B4 R4 E4
      go_wp2_with fail
      refine (HI2.out _ _ _ (HSH.out.kept B5.out).1 (HSH.out.kept B5.out).2 R5.out).mono ?_; rintro e w6 ⟨v6, rfl, hr, hb⟩
      have R6 := Lib.hid (R5.out.kept hb)
      have E6 := Lib.hid (E5.out.kept hb)
      have V6 := Lib.hid hr
      have B6 := Lib.hid (B5.out.trans (hb.mono B5.out.size))
      clear hb hr B5 R5 E5
      obtain ⟨g, m, rfl, _, hg, c0, c1, c2⟩ := R6.out.three
      obtain ⟨g', m', rfl, _, hg', d0, d1, d2⟩ := E6.out.three
      have hk0 : Below w6.heap.size w6 w6 := Below.refl _ _
      have y1 : (Y : Int) ≤ (X : Int) := by omega
      have y2 : ¬ (X : Int) < (Y : Int) := by omega
      have y3 : (X : Int) < 2 * (Y : Int) := by omega
      have y4 : ¬ 2 * (Y : Int) ≤ (X : Int) := by omega
      have y5 := IntWalk.i64_in (2 * (Y : Int)) (by omega)
      have y6 : ¬ X < Y := by omega
      have y7 : ¬ 2 * Y ≤ X := by omega
      go_wp2_with fail
      go_region_held3 (fun w' => w'.cell? ⟨g, 1, none⟩ = some (.int .i64 b) ∧ w'.cell? ⟨g, 2, none⟩ = some (.int .i64 c) ∧ w'.cell? ⟨g', 1, none⟩ = some (.int .i64 b) ∧ w'.cell? ⟨g', 2, none⟩ = some (.int .i64 c))
        (exact ⟨(hk0.cell (p := ⟨g, 1, none⟩) hg).trans c1, (hk0.cell (p := ⟨g, 2, none⟩) hg).trans c2, (hk0.cell (p := ⟨g', 1, none⟩) hg').trans d1, (hk0.cell (p := ⟨g', 2, none⟩) hg').trans d2⟩)
        (first | (go_at_call 16; refine (equalInts_yes _ _ _ _ _ _ (V6.out.kept (by first | exact hk0 | exact hk0.drew)) (R6.out.kept (by first | exact hk0 | exact hk0.drew))).mono ?_; rintro e w7 ⟨rfl, hb⟩; replace hk0 : Below w6.heap.size w6 w7 := (by first | exact grow1p hk0 hb | exact grow0p hk0 hb); clear hb) | fail)
      have hB := B6.out.trans (hk0.mono B6.out.size)
      clear hk0 c0 c1 c2 d0 d1 d2 y1 y2 y3 y4 y5 y6 y7
      go_wp2
      go_ret
      exact ⟨rfl, hB⟩
    · have et : into L = none := by
        by_cases hp : PwsL L
        · obtain ⟨a, b, c, rfl, hpw⟩ := hp
          exact into_out (fun hh => ht ⟨a, b, c, rfl, hpw, hh⟩)
        · exact into_no hp
      rw [et] at HI HS
      unfold GivesInto at HI HS
      simp only [Option.getD_none, Option.isSome_none] at HI HS
      clear ht et
      go_wp2_with fail
      refine HI.out.mono ?_; rintro e w2 ⟨v, rfl, hr, hb⟩
      have R2 := Lib.hid hr
      have E2 := Lib.hid (HE.out.kept hb)
      have HB2 := Lib.hid (HB.out.trans (hb.mono HB.out.size))
      clear hr hb HB HI HE
      go_wp2_with fail
      refine (HS.out _ _ _ E2.out).mono ?_; rintro e w3 ⟨v', rfl, hr, hb⟩
      have R3 := Lib.hid (R2.out.kept hb)
      have S3 := Lib.hid hr
      have HB3 := Lib.hid (HB2.out.trans (hb.mono HB2.out.size))
      clear hr hb HB2 R2
      go_wp2_with fail
      refine (equalInts_yes _ _ _ _ _ _ R3.out S3.out).mono ?_; rintro e w4 ⟨rfl, hb⟩
      have R4 := Lib.hid (R3.out.kept hb)
      have S4 := Lib.hid (S3.out.kept hb)
      have HB4 := Lib.hid (HB3.out.trans (hb.mono HB3.out.size))
      clear hb HB3 R3 S3
      go_wp2_with fail
      refine (equalInts_yes _ _ _ _ _ _ R4.out S4.out).mono ?_; rintro e w5 ⟨rfl, hb⟩
      have hB := HB4.out.trans (hb.mono HB4.out.size)
      go_wp2_with fail
      go_ret
      exact ⟨rfl, hB⟩
  · clear h
    go_enter Tryd.func5, Tryd.ntmps5
    go_wp2
    go_ret
    exact ⟨rfl, Below.refl _ _⟩
set_option maxHeartbeats 1000000 in
theorem FnStepsBy_walk (x : Option Addr) (len cap : Nat) (w : World) (h : Code w x len cap) (hsh : Limits w) :
    Calls Tryd.prog 6 #[.slice x len cap] w fun e w' => e = .returned (.bool true) ∧ Below w.heap.size w w' := by
  by_cases hl : len ≤ 1048576
  · have HD := Lib.hid (drawStepsBy x len cap w h)
    have HSH := Lib.hid hsh
    clear h hsh
    go_enter Tryd.func6, Tryd.ntmps6
    go_wp2_with fail
    refine HD.out.mono ?_; rintro e w1 ⟨n, v, L, rfl, n0, n1, hL, hr, hb⟩
    have HB := Lib.hid hb
    have HR := Lib.hid hr
    clear hb hr
    have HI := Lib.hid (fun w hs hr => iStepsBy_all n v w1.heap.size L w hs hr)
    have HIA := Lib.hid (fun v B L w hs hr => iStepsBy_all n v B L w hs hr)
    have HS := Lib.hid (fun v B w hr => sStepsBy_all n v B L w hr)
    by_cases ht : 1 ≤ n ∧ n ≤ 12 ∧ PwsL L
    · obtain ⟨u1, u2, a, b, c, rfl, hpw⟩ := ht
      have HPN := Lib.hid hpw.neg
      have HTU := Lib.hid (fun v B w hr => turned_any v B [a, b, c] w hr (by simp) (by unfold Tic.Pws at hpw; intro x hx; simp at hx; omega))
      simp only [List.map_cons, List.map_nil] at HTU
      obtain ⟨q1, q2, q3, e1, e2, e3, i1, i2, i3, i4, i5, i6, hs⟩ := sby_parts u1 u2 hpw
      have p100 : Tic.Pws 1 0 0 := by unfold Tic.Pws; omega
      have p010 : Tic.Pws 0 1 0 := by unfold Tic.Pws; omega
      have p001 : Tic.Pws 0 0 1 := by unfold Tic.Pws; omega
      have g1 := sbyL_yes u1 u2 hpw
      have g2 := sbyL_yes u1 u2 hpw.neg
      have g3 := sbyL_yes u1 u2 p100
      have g4 := sbyL_yes u1 u2 p010
      have g5 := sbyL_yes u1 u2 p001
      have hneg : sby n (-a) (-b) (-c) = -(q1 + q2 + q3) := by
        unfold sby
        rw [Int.mul_neg, Int.mul_neg, Int.mul_neg, e1, e2, e3]; omega
      have k1 : sby n 1 0 0 = n := by unfold sby; simp
      have k2 : sby n 0 1 0 = (Tic.stp 3 n.toNat : Int) := by unfold sby; simp
      have k3 : sby n 0 0 1 = (Tic.stp 5 n.toNat : Int) := by unfold sby; simp
      rw [hs] at g1
      rw [hneg] at g2
      rw [k1] at g3
      rw [k2] at g4
      rw [k3] at g5
      have st3 : stpI n 3 = (Tic.stp 3 n.toNat : Int) := by unfold stpI; rw [if_pos ⟨u1, u2, .inl rfl⟩]; rfl
      have st5 : stpI n 5 = (Tic.stp 5 n.toNat : Int) := by unfold stpI; rw [if_pos ⟨u1, u2, .inr rfl⟩]; rfl
      have T3 := Lib.hid (fun w => iStepsFor_any n 3 w)
      have T5 := Lib.hid (fun w => iStepsFor_any n 5 w)
      rw [st3] at T3
      rw [st5] at T5
      have s3 := (Tic.stp_le (p := 3) (n := n.toNat) (.inl rfl) (by omega)).1
      have s5 := (Tic.stp_le (p := 5) (n := n.toNat) (.inr rfl) (by omega)).1
      generalize Tic.stp 3 n.toNat = t3 at *
      generalize Tic.stp 5 n.toNat = t5 at *
      have J1 := Lib.hid (fun v B w hs hr => iStepsBy_all n v B [a, b, c] w hs hr)
      have J2 := Lib.hid (fun v B w hs hr => iStepsBy_all n v B [-a, -b, -c] w hs hr)
      have J3 := Lib.hid (fun v B w hs hr => iStepsBy_all n v B [1, 0, 0] w hs hr)
      have J4 := Lib.hid (fun v B w hs hr => iStepsBy_all n v B [0, 1, 0] w hs hr)
      have J5 := Lib.hid (fun v B w hs hr => iStepsBy_all n v B [0, 0, 1] w hs hr)
      rw [g1] at J1 HS
      rw [g2] at J2
      rw [g3] at J3
      rw [g4] at J4
      rw [g5] at J5
      simp only at J1 J2 J3 J4 J5 HS
      have E1 := Lib.hid e1
      have E2 := Lib.hid e2
      have E3 := Lib.hid e3
      clear g1 g2 g3 g4 g5 hneg k1 k2 k3 st3 st5 e1 e2 e3 hs p100 p010 p001 hpw HI HIA HPN
      have hq : ∃ q, q = q1 + q2 + q3 := ⟨_, rfl⟩
      go_wp2_with fail
      refine (J1.out _ _ _ (HSH.out.kept HB.out) HR.out).mono ?_; rintro e w2 ⟨rfl, hb⟩
      have R2 := Lib.hid (HR.out.kept hb)
      have B2 := Lib.hid (HB.out.trans (hb.mono HB.out.size))
      clear hb HR HB
      go_wp2_with fail
      refine (HS.out _ _ _ R2.out).mono ?_; rintro e w3 ⟨rfl, hb⟩
      have R3 := Lib.hid (R2.out.kept hb)
      have B3 := Lib.hid (B2.out.trans (hb.mono B2.out.size))
      clear hb R2 B2
      go_wp2_with fail
      refine (HTU.out _ _ _ R3.out).mono ?_; rintro e w4 ⟨v4, rfl, hr4, hb⟩
      have R4 := Lib.hid (R3.out.kept hb)
      have V4 := Lib.hid hr4
      have B4 := Lib.hid (B3.out.trans (hb.mono B3.out.size))
      clear hb hr4 R3 B3
      go_wp2_with fail
      refine (J2.out _ _ _ (HSH.out.kept B4.out) V4.out).mono ?_; rintro e w5 ⟨rfl, hb⟩
      have R5 := Lib.hid ((R4.out.kept hb).alloc (.cells #[.int .i64 1, .int .i64 0, .int .i64 0] 3))
      have B5 := Lib.hid ((B4.out.trans (hb.mono B4.out.size)).alloc (B4.out.trans (hb.mono B4.out.size)).size (.cells #[.int .i64 1, .int .i64 0, .int .i64 0] 3))
      have V5 := Lib.hid (Row.built3 w5 1 0 0 (Nat.le_refl _))
      clear hb R4 B4 V4
      go_wp2_with fail
      refine (J3.out _ _ _ (HSH.out.kept B5.out) V5.out).mono ?_; rintro e w6 ⟨rfl, hb⟩
      have R6 := Lib.hid ((R5.out.kept hb).alloc (.cells #[.int .i64 0, .int .i64 1, .int .i64 0] 3))
      have B6 := Lib.hid ((B5.out.trans (hb.mono B5.out.size)).alloc (B5.out.trans (hb.mono B5.out.size)).size (.cells #[.int .i64 0, .int .i64 1, .int .i64 0] 3))
      have V6 := Lib.hid (Row.built3 w6 0 1 0 (Nat.le_refl _))
      clear hb R5 B5 V5
      go_wp2_with fail
      refine (J4.out _ _ _ (HSH.out.kept B6.out) V6.out).mono ?_; rintro e w7 ⟨rfl, hb⟩
      have R7 := Lib.hid ((R6.out.kept hb).alloc (.cells #[.int .i64 0, .int .i64 0, .int .i64 1] 3))
      have B7 := Lib.hid ((B6.out.trans (hb.mono B6.out.size)).alloc (B6.out.trans (hb.mono B6.out.size)).size (.cells #[.int .i64 0, .int .i64 0, .int .i64 1] 3))
      have V7 := Lib.hid (Row.built3 w7 0 0 1 (Nat.le_refl _))
      clear hb R6 B6 V6
      go_wp2_with fail
      refine (J5.out _ _ _ (HSH.out.kept B7.out) V7.out).mono ?_; rintro e w8 ⟨rfl, hb⟩
      have R8 := Lib.hid (R7.out.kept hb)
      have B8 := Lib.hid (B7.out.trans (hb.mono B7.out.size))
      clear hb R7 B7 V7
      obtain ⟨g, m, rfl, _, hg, c0, c1, c2⟩ := R8.out.three
      have e1 := E1.out
      have e2 := E2.out
      have e3 := E3.out
      have hwq := IntWalk.i64_in (-(q1 + q2 + q3)) (by omega)
      go_wp2_with fail
      go_quiet (first | (go_at_call_of 25 (Value.int IntKind.i64 3); exact Calls.quiet_of_same (still_of (T3.out _))) | (go_at_call_of 25 (Value.int IntKind.i64 5); exact Calls.quiet_of_same (still_of (T5.out _))))
      clear e1 e2 e3 c0 c1 c2
      go_wp2
      go_ret
      exact ⟨rfl, below_drewN B8.out _⟩
    · rw [sbyL_no ht] at HS
      have HI2 := iStepsBy_all n v w.heap.size L w1 (HSH.out.kept HB.out) HR.out
      rw [sbyL_no ht] at HI2
      have HI3 := Lib.hid HI2
      clear ht HI2
      go_wp2_with fail
      refine HI3.out.mono ?_; rintro e w2 ⟨rfl, hb⟩
      have HR2 := Lib.hid (HR.out.kept hb)
      have HB2 := Lib.hid (HB.out.trans (hb.mono HB.out.size))
      clear hb HR HB HI3
      go_wp2_with fail
      refine (HS.out _ _ _ HR2.out).mono ?_; rintro e w3 ⟨rfl, hb⟩
      have hB := HB2.out.trans (hb.mono HB2.out.size)
      go_wp2_with fail
      go_ret
      exact ⟨rfl, hB⟩
  · clear h
    go_enter Tryd.func6, Tryd.ntmps6
    go_wp2
    go_ret
    exact ⟨rfl, Below.refl _ _⟩
end Go.Proofs.YtlbmjpkkomdhhaaDoor
