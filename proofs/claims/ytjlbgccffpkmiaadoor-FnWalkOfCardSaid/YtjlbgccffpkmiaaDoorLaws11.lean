/-
  The walk of the law of steps of triads.
-/
import Derived.Test.YtjlbgccffpkmiaaDoorLaws12
namespace Go.Proofs.YtjlbgccffpkmiaaDoor
open Go.RowKit
set_option linter.unusedVariables false

/-- the names of the three steps -/
def words3 : List ByteArray := [⟨#[80]⟩, ⟨#[76]⟩, ⟨#[82]⟩]
theorem words3_ok : ∀ i : Fin 3, Tic.Wrd (words3.getD i.val ByteArray.empty) := by decide
theorem words3_one : ∀ i : Fin 3, (words3.getD i.val ByteArray.empty).size = 1 := by decide
def Words3 (w : World) (b : Nat) : Prop := ∀ i, i < 3 → w.cell? ⟨b, i, none⟩ = some (.string (words3.getD i ByteArray.empty))
theorem Words3.kept {w w' : World} {b : Nat} (h : Words3 w b) (hb : Below w.heap.size w w') : Words3 w' b := fun i hi =>
  (hb.cell (p := ⟨b, i, none⟩) (block_lt_of_cell (h i hi))).trans (h i hi)
theorem words3_lit (w : World) (t : TypeId) : Words3 (w.alloc (.cells #[.string ⟨#[80]⟩, .string ⟨#[76]⟩, .string ⟨#[82]⟩] t)) w.heap.size := fun i hi => by
  rw [cell_of_row _ _ _ _ _ _ (heap_alloc_new _ _)]
  obtain rfl | rfl | rfl : i = 0 ∨ i = 1 ∨ i = 2 := by omega
  all_goals rfl
theorem wlk_one {t : Int} {s : ByteArray} (h : s.size = 1) : Tic.wlk t s s.size = Tic.stp t (Tic.bt s 0) := by rw [h]; rfl

set_option maxRecDepth 20000 in
set_option maxHeartbeats 1000000 in
theorem FnWalkOf_walk (x : Option Addr) (len cap : Nat) (w : World) (h : Code w x len cap) (hsh : Shapes w) :
    Calls Tryd.prog 6 #[.slice x len cap] w fun e w' => e = .returned (.bool true) ∧ Below w.heap.size w w' := by
  have HSH := Lib.hid hsh
  clear hsh
  by_cases hl : 1048576 < len
  · go_enter Tryd.func6, Tryd.ntmps6
    go_wp2_with fail
    go_ret
    exact ⟨rfl, Below.refl _ _⟩
  · go_enter Tryd.func6, Tryd.ntmps6
    go_wp2_with fail
    refine (drawWalkOf _ _ _ _ h).mono ?_; rintro e w1 ⟨t, s, rfl, t0, t1, hs20, hb⟩
    have HB := Lib.hid hb
    clear hb h hl
    have hsm : s.size ≤ maxLen := Nat.le_trans hs20 (by decide)
    have HSM := Lib.hid hsm
    clear hsm
    by_cases ht : Tic.Tri t
    · by_cases hw : Tic.Wrd s
      · have HT := Lib.hid ht
        have HO := Lib.hid (Tic.wlk_tri s ht s.size)
        have HI := Lib.hid (iWalk_wrd t s ht hw)
        have hS := fun w => sWalkOf_yes t s w ht HSM.out
        rw [if_pos hw] at hS
        have HS := Lib.hid hS
        have hpar := Tic.wlk_par ht hw.2 s.size (Nat.le_refl _)
        have HSP := Lib.hid (fun k hk => Tic.wlk_split t s k hk)
        have HWP := Lib.hid (fun a b hb => Tic.wrd_part hw a b hb)
        have hs8 := hw.1
        clear hS hw
        generalize Tic.wlk t s s.size = o at HO HI HS hpar HSP
        have ho0 := HO.out.1
        have ho1 := HO.out.2
        have ht0 := ht.1
        have ht1 := ht.2
        clear ht
        go_wp2_with fail
        refine (HI.out _).mono ?_; rintro e w2 ⟨rfl, hb2⟩
        replace HB := Lib.hid (HB.out.trans (hb2.mono HB.out.size))
        clear hb2
        go_wp2_with fail
        refine (HS.out _).mono ?_; rintro e w3 ⟨rfl, rfl⟩
        go_wp2
        go_loopw [7] (fun t7 wr => ∃ i : Nat, i ≤ 3 ∧ t7 = .int .i64 i ∧ Hid (Words3 wr w2.heap.size) ∧ Hid (Below w.heap.size w wr)) (fun t7 _ => 3 - (intOf t7).toNat)
        case atStart => exact ⟨0, by omega, rfl, Lib.hid (words3_lit _ _), Lib.hid (HB.out.alloc HB.out.size _)⟩
        case round =>
          obtain ⟨i, hi, rfl, HW, HB1⟩ := hrel
          by_cases hlt : i < 3
          · have hcell := HW.out i hlt
            have HSV : Hid (Tic.Wrd (words3.getD i ByteArray.empty)) := words3_ok ⟨i, hlt⟩
            have hone : (words3.getD i ByteArray.empty).size = 1 := words3_one ⟨i, hlt⟩
            generalize hsv : words3.getD i ByteArray.empty = sv at hcell HSV hone
            have HSE := Lib.hid hsv
            clear hsv
            have HL : Hid (Tic.Ltr (Tic.bt sv 0)) := HSV.out.2 0 (by omega)
            have HK := Lib.hid (Tic.keep HO.out HL.out)
            have HC1 := Lib.hid (iWalk_wrd o sv HO.out HSV.out)
            have HC2 := Lib.hid (iWalk_wrd (Tic.stp o (Tic.bt sv 0)) sv (Tic.stp_tri _ _) HSV.out)
            rw [wlk_one hone] at HC1 HC2
            rw [HK.out.2.1] at HC2
            have HN := Lib.hid (Tic.stp_tri o (Tic.bt sv 0))
            clear hone
            generalize Tic.stp o (Tic.bt sv 0) = nx at HC1 HC2 HK HN
            have HWT := Lib.hid HK.out.1
            have HTN := Lib.hid (fun w hw => iTriadSet_yes nx w HN.out hw)
            have HTO := Lib.hid (fun w hw => iTriadSet_yes o w HO.out hw)
            have hab := and_bits (Tic.triSet nx) (Tic.triSet o) (Tic.triSet_lt _) (Tic.triSet_lt _)
            have hlt2 : Tic.triSet nx &&& Tic.triSet o < 4096 := Nat.lt_of_le_of_lt Nat.and_le_left (Tic.triSet_lt _)
            clear HK
            generalize Tic.triSet nx = y1 at HWT HTN hab hlt2
            generalize Tic.triSet o = y2 at HWT HTO hab hlt2
            generalize y1 &&& y2 = y3 at HWT hab hlt2
            have hi2 : (i : Int) < 3 := by omega
            go_wp2_with fail
            refine (HC1.out _).mono ?_; rintro e w3 ⟨rfl, hb⟩
            have HW3 := Lib.hid (HW.out.kept hb)
            replace HB1 := Lib.hid (HB1.out.trans (hb.mono HB1.out.size))
            clear hb hcell HW
            go_wp2_with fail
            refine (HTN.out _ (HSH.out.kept HB1.out)).mono ?_; rintro e w4 ⟨rfl, hb⟩
            have HW4 := Lib.hid (HW3.out.kept hb)
            replace HB1 := Lib.hid (HB1.out.trans (hb.mono HB1.out.size))
            clear hb HW3
            go_wp2_with fail
            refine (HTO.out _ (HSH.out.kept HB1.out)).mono ?_; rintro e w5 ⟨rfl, hb⟩
            have HW5 := Lib.hid (HW4.out.kept hb)
            replace HB1 := Lib.hid (HB1.out.trans (hb.mono HB1.out.size))
            clear hb HW4
            go_wp2_with fail
            refine (lweight_any _ _ (by omega) (by omega)).mono ?_; rintro e w6 ⟨rfl, rfl⟩
            rw [Int.toNat_natCast, HWT.out]
            have hcell := HW5.out i hlt
            rw [HSE.out] at hcell
            go_wp2_with fail
            refine (HC2.out _).mono ?_; rintro e w6 ⟨rfl, hb⟩
            have HW6 := Lib.hid (HW5.out.kept hb)
            replace HB1 := Lib.hid (HB1.out.trans (hb.mono HB1.out.size))
            clear hb HW5 hcell
            go_wp2
            go_roundw
            case rel => exact ⟨i + 1, by omega, by go_num, HW6, HB1⟩
            case measure => simp [intOf]; omega
          · obtain rfl : i = 3 := by omega
            go_wp2
            have hdiv : (s.size : Int) / 2 = ((s.size / 2 : Nat) : Int) := by omega
            rw [hdiv]
            have hkl : s.size / 2 ≤ s.size := by omega
            clear hdiv
            generalize s.size / 2 = k at hkl ⊢
            have HP := Lib.hid (HSP.out k hkl)
            have HC1 := Lib.hid (iWalk_wrd t (s.extract 0 k) HT.out (HWP.out 0 k hkl))
            have HC2 := Lib.hid (iWalk_wrd (Tic.wlk t (s.extract 0 k) (s.extract 0 k).size) (s.extract k s.size) (Tic.wlk_tri _ HT.out _) (HWP.out k s.size (Nat.le_refl _)))
            rw [HP.out] at HC2
            generalize Tic.wlk t (s.extract 0 k) (s.extract 0 k).size = r1 at HC1 HC2
            clear HP
            have hk0 : Below wr.heap.size wr wr := Below.refl _ _
            have hkI : (k : Int) ≤ (s.size : Int) := by omega
            go_region_held3 (fun _ => True)
              (first | go_keep | trivial)
              (first | (go_at_call_of 20 (Value.int IntKind.i64 t); refine (HC1.out _).mono ?_; rintro e wx ⟨rfl, hb⟩; replace hk0 : Below wr.heap.size wr wx := (by first | exact grow1t hk0 hb | exact grow0t hk0 hb); clear hb) | (go_at_call_of 20 (Value.int IntKind.i64 r1); refine (HC2.out _).mono ?_; rintro e wx ⟨rfl, hb⟩; replace hk0 : Below wr.heap.size wr wx := (by first | exact grow1t hk0 hb | exact grow0t hk0 hb); clear hb))
            have HE : Hid (((IntKind.i64.wrap (IntKind.i64.wrap (o + t) + ↑s.size)).tmod 2 == 0) = true) := Lib.hid (by
              rw [IntWalk.i64_in (o + t) (by omega), IntWalk.i64_in (o + t + s.size) (by omega), Int.tmod_eq_emod_of_nonneg (by omega), hpar]
              rfl)
            rw [HE.out]
            go_wp2
            go_ret
            exact ⟨rfl, HB1.out.trans (hk0.mono HB1.out.size)⟩
      · have hS := fun w => sWalkOf_yes t s w ht HSM.out
        have hI := fun w => iWalkOf_yes t s w ht HSM.out
        rw [if_neg hw] at hS hI
        have HS := Lib.hid hS
        have HI := Lib.hid hI
        clear hS hI hw
        go_wp2_with fail
        refine (HI.out _).mono ?_; rintro e w2 ⟨rfl, hb2⟩
        replace HB := Lib.hid (HB.out.trans (hb2.mono HB.out.size))
        clear hb2
        go_wp2_with fail
        refine (HS.out _).mono ?_; rintro e w3 ⟨rfl, rfl⟩
        go_wp2_with fail
        refine (HS.out _).mono ?_; rintro e w3 ⟨rfl, rfl⟩
        go_wp2_with fail
        go_ret
        exact ⟨rfl, HB.out⟩
    · go_wp2_with fail
      refine (iWalkOf_tri _ _ _ ht).mono ?_; rintro e w2 ⟨rfl, rfl⟩
      go_wp2_with fail
      refine (sWalkOf_no _ _ _ ht).mono ?_; rintro e w3 ⟨rfl, rfl⟩
      go_wp2_with fail
      refine (sWalkOf_no _ _ _ ht).mono ?_; rintro e w3 ⟨rfl, rfl⟩
      go_wp2_with fail
      go_ret
      exact ⟨rfl, HB.out⟩
end Go.Proofs.YtjlbgccffpkmiaaDoor
