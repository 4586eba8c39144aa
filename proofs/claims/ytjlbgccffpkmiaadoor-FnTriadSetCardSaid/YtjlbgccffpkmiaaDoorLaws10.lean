/-
  The walks of the laws of valid triads, their sets, and the triads of sets.
-/
import Derived.Test.YtjlbgccffpkmiaaDoorTriDraw
import Derived.Test.YtjlbgccffpkmiaaDoorTriLawNum
import Derived.Test.YtjlbgccffpkmiaaDoorExact3A
namespace Go.Proofs.YtjlbgccffpkmiaaDoor
open Go.RowKit
set_option linter.unusedVariables false

theorem lweight_any (x : Int) (w : World) (h0 : 0 ≤ x) (hx : x < 4096) :
    Calls Tryd.prog 13 #[.int .i64 x] w fun e w' => e = .returned (.int .i64 (Tic.wt 12 x.toNat : Int)) ∧ w = w' := by
  obtain ⟨s, rfl⟩ := Int.eq_ofNat_of_zero_le h0
  rw [Int.toNat_natCast]
  have hle := Tic.wt_le 12 s
  go_enter Tryd.func13, Tryd.ntmps13
  go_wp2
  go_loop [0, 3] (fun t0 t3 => ∃ f r c : Nat, f ≤ 12 ∧ c ≤ 12 ∧ r ≤ 4095 ∧ r < 2 ^ f ∧ t0 = .int .i64 r ∧ t3 = .int .i64 c ∧ Hid (c + Tic.wt f r = Tic.wt 12 s)) (fun t0 _ => (intOf t0).toNat)
  case atStart => exact ⟨12, s, 0, by omega, by omega, by omega, by omega, rfl, rfl, Nat.zero_add _⟩
  case round =>
    obtain ⟨f, r, c, hf, hc, hr', hr, rfl, rfl, hP⟩ := hrel
    by_cases hlt : 0 < r
    · obtain ⟨g, rfl⟩ : ∃ g, f = g + 1 := ⟨f - 1, by
        cases f with
        | zero => simp at hr; omega
        | succ f => omega⟩
      have h3 : c + (r % 2 + Tic.wt g (r / 2)) = Tic.wt 12 s := hP.out
      have hm : c + r % 2 ≤ 12 := by omega
      have H3 := Lib.hid h3
      clear h3
      rw [Nat.pow_succ] at hr
      go_wp2
      go_round
      case rel => exact ⟨g, r / 2, c + r % 2, by omega, by omega, by omega, by omega, by go_num, by go_num, by have := H3.out; show c + r % 2 + Tic.wt g (r / 2) = Tic.wt 12 s; omega⟩
      case measure => simp [intOf]; omega
    · have : r = 0 := by omega
      subst this
      go_wp2
      go_ret
      have h3 := hP.out
      rw [Tic.wt_zero] at h3
      exact ⟨ret_int (by omega), rfl⟩
theorem FnValidTriad_walk (x : Option Addr) (len cap : Nat) (w : World) (h : Code w x len cap) (hsh : Shapes w) :
    Calls Tryd.prog 3 #[.slice x len cap] w fun e w' => e = .returned (.bool true) ∧ Below w.heap.size w w' := by
  have HSH := Lib.hid hsh
  clear hsh
  by_cases hl : 1048576 < len
  · go_enter Tryd.func3, Tryd.ntmps3
    go_wp2_with fail
    go_ret
    exact ⟨rfl, Below.refl _ _⟩
  · go_enter Tryd.func3, Tryd.ntmps3
    go_wp2_with fail
    refine (drawValidTriad _ _ _ _ h).mono ?_; rintro e w1 ⟨t, rfl, t0, t1, hb⟩
    have HB := Lib.hid hb
    clear hb h hl
    by_cases ht : Tic.Tri t
    · have hs4 := Tic.triSet_lt t
      have HW : Hid (Tic.wt 12 (Tic.triSet t) = 3) := by obtain ⟨n, hn, rfl⟩ := Tic.tri_nat ht; exact Tic.wt_tri ⟨n, hn⟩
      have HI := Lib.hid (fun w hw => iTriadSet_yes t w ht hw)
      generalize Tic.triSet t = y at hs4 HW HI
      go_wp2_with fail
      refine (vTri_yes _ _ ht).mono ?_; rintro e w2 ⟨rfl, rfl⟩
      go_wp2_with fail
      refine (sValidTriad_yes _ _ ht).mono ?_; rintro e w2 ⟨rfl, rfl⟩
      go_wp2_with fail
      refine (HI.out _ (HSH.out.kept HB.out)).mono ?_; rintro e w2 ⟨rfl, hb2⟩
      replace HB := Lib.hid (HB.out.trans (hb2.mono HB.out.size))
      clear hb2
      go_wp2_with fail
      refine (HI.out _ (HSH.out.kept HB.out)).mono ?_; rintro e w3 ⟨rfl, hb3⟩
      replace HB := Lib.hid (HB.out.trans (hb3.mono HB.out.size))
      clear hb3
      go_wp2_with fail
      refine (lweight_any _ _ (by omega) (by omega)).mono ?_; rintro e w4 ⟨rfl, rfl⟩
      rw [Int.toNat_natCast, HW.out]
      go_wp2_with fail
      go_ret
      exact ⟨rfl, HB.out⟩
    · go_wp2_with fail
      refine (vTri_no _ _ ht).mono ?_; rintro e w2 ⟨rfl, rfl⟩
      go_wp2_with fail
      refine (sValidTriad_no _ _ ht).mono ?_; rintro e w2 ⟨rfl, rfl⟩
      go_wp2_with fail
      refine (iTriadSet_no _ _ ht).mono ?_; rintro e w2 ⟨rfl, rfl⟩
      go_wp2_with fail
      go_ret
      exact ⟨rfl, HB.out⟩
theorem FnTriadSet_walk (x : Option Addr) (len cap : Nat) (w : World) (h : Code w x len cap) (hsh : Shapes w) :
    Calls Tryd.prog 4 #[.slice x len cap] w fun e w' => e = .returned (.bool true) ∧ Below w.heap.size w w' := by
  have HSH := Lib.hid hsh
  clear hsh
  by_cases hl : 1048576 < len
  · go_enter Tryd.func4, Tryd.ntmps4
    go_wp2_with fail
    go_ret
    exact ⟨rfl, Below.refl _ _⟩
  · go_enter Tryd.func4, Tryd.ntmps4
    go_wp2_with fail
    refine (drawTriadSet _ _ _ _ h).mono ?_; rintro e w1 ⟨t, rfl, t0, t1, hb⟩
    have HB := Lib.hid hb
    clear hb h hl
    by_cases ht : Tic.Tri t
    · obtain ⟨n, hn, rfl⟩ := Tic.tri_nat ht
      have hs4 := Tic.triSet_lt n
      have HW : Hid (Tic.wt 12 (Tic.triSet n) = 3) := Tic.wt_tri ⟨n, hn⟩
      have HI := Lib.hid (fun w hw => iTriadSet_yes (n : Int) w ht hw)
      have HS := Lib.hid (fun w => sTriadSet_yes n w hn)
      have HO := Lib.hid (fun w hw => iTriadOf_any (Tic.triSet n : Int) w hw)
      rw [show Tic.triOf (Tic.triSet n : Int) = some n from Tic.triOf_set ⟨n, hn⟩] at HO
      unfold ofV at HO
      generalize Tic.triSet n = y at hs4 HW HI HS HO
      go_wp2_with fail
      refine (HI.out _ (HSH.out.kept HB.out)).mono ?_; rintro e w2 ⟨rfl, hb2⟩
      replace HB := Lib.hid (HB.out.trans (hb2.mono HB.out.size))
      clear hb2
      go_wp2_with fail
      refine (HS.out _).mono ?_; rintro e w3 ⟨rfl, rfl⟩
      go_wp2_with fail
      refine (HO.out _ (HSH.out.kept HB.out)).mono ?_; rintro e w3 ⟨rfl, hb3⟩
      replace HB := Lib.hid (HB.out.trans (hb3.mono HB.out.size))
      clear hb3
      go_wp2_with fail
      refine (lweight_any _ _ (by omega) (by omega)).mono ?_; rintro e w4 ⟨rfl, rfl⟩
      rw [Int.toNat_natCast, HW.out]
      go_wp2_with fail
      go_ret
      exact ⟨rfl, HB.out⟩
    · go_wp2_with fail
      refine (iTriadSet_no _ _ ht).mono ?_; rintro e w2 ⟨rfl, rfl⟩
      go_wp2_with fail
      refine (sTriadSet_no _ _ ht).mono ?_; rintro e w2 ⟨rfl, rfl⟩
      go_wp2_with fail
      refine (sTriadSet_no _ _ ht).mono ?_; rintro e w2 ⟨rfl, rfl⟩
      go_wp2_with fail
      go_ret
      exact ⟨rfl, HB.out⟩
theorem FnTriadOf_walk (x : Option Addr) (len cap : Nat) (w : World) (h : Code w x len cap) (hsh : Shapes w) :
    Calls Tryd.prog 5 #[.slice x len cap] w fun e w' => e = .returned (.bool true) ∧ Below w.heap.size w w' := by
  have HSH := Lib.hid hsh
  clear hsh
  by_cases hl : 1048576 < len
  · go_enter Tryd.func5, Tryd.ntmps5
    go_wp2_with fail
    go_ret
    exact ⟨rfl, Below.refl _ _⟩
  · go_enter Tryd.func5, Tryd.ntmps5
    go_wp2_with fail
    refine (drawTriadOf _ _ _ _ h).mono ?_; rintro e w1 ⟨t, rfl, t0, t1, hb⟩
    have HB := Lib.hid hb
    clear hb h hl
    have HI := Lib.hid (fun w hw => iTriadOf_any t w hw)
    have HS := Lib.hid (fun w => sTriadOf_any t w)
    have HO := Lib.hid (fun n => Tic.triOf_some (set := t) (t := n))
    generalize Tic.triOf t = o at HI HS HO
    unfold ofV at HI HS
    cases o with
    | some n =>
      obtain ⟨hn, e1, _⟩ := HO.out n rfl
      have ht : Tic.Tri (n : Int) := ⟨by omega, by omega⟩
      have HT := Lib.hid (fun w hw => iTriadSet_yes (n : Int) w ht hw)
      rw [e1] at HT
      clear e1
      go_wp2_with fail
      refine (HI.out _ (HSH.out.kept HB.out)).mono ?_; rintro e w2 ⟨rfl, hb2⟩
      replace HB := Lib.hid (HB.out.trans (hb2.mono HB.out.size))
      clear hb2
      go_wp2_with fail
      refine (HS.out _).mono ?_; rintro e w3 ⟨rfl, rfl⟩
      go_wp2_with fail
      refine (HT.out _ (HSH.out.kept HB.out)).mono ?_; rintro e w3 ⟨rfl, hb3⟩
      replace HB := Lib.hid (HB.out.trans (hb3.mono HB.out.size))
      clear hb3
      go_wp2_with fail
      refine (vTri_yes _ _ ht).mono ?_; rintro e w4 ⟨rfl, rfl⟩
      go_wp2_with fail
      go_ret
      exact ⟨rfl, HB.out⟩
    | none =>
      go_wp2_with fail
      refine (HI.out _ (HSH.out.kept HB.out)).mono ?_; rintro e w2 ⟨rfl, hb2⟩
      replace HB := Lib.hid (HB.out.trans (hb2.mono HB.out.size))
      clear hb2
      go_wp2_with fail
      refine (HS.out _).mono ?_; rintro e w3 ⟨rfl, rfl⟩
      go_wp2_with fail
      go_ret
      exact ⟨rfl, HB.out⟩
end Go.Proofs.YtjlbgccffpkmiaaDoor
