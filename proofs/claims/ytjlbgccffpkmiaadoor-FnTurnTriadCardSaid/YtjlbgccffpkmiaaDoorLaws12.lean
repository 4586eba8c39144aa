/-
  The walks of the laws of shifted and turned triads.
-/
import Derived.Test.YtjlbgccffpkmiaaDoorLaws10
import Derived.Test.YtjlbgccffpkmiaaDoorTriTurn
import Derived.Deep.RegionHeld3
namespace Go.Proofs.YtjlbgccffpkmiaaDoor
open Go.RowKit
set_option linter.unusedVariables false

theorem grow1t {a b d : World} (h : Below a.heap.size a b) (k : Below b.drew.heap.size b.drew d) : Below a.heap.size a d := h.drew.trans (k.mono h.size)
theorem grow0t {a b d : World} (h : Below a.heap.size a b) (k : Below b.heap.size b d) : Below a.heap.size a d := h.trans (k.mono h.size)
/-- the words that the laws go -/
def words5 : List ByteArray := [⟨#[80]⟩, ⟨#[76]⟩, ⟨#[82]⟩, ⟨#[80, 76, 82]⟩, ⟨#[76, 82, 76]⟩]
theorem words5_ok : ∀ i : Fin 5, Tic.Wrd (words5.getD i.val ByteArray.empty) := by decide
theorem words5_size : ∀ i : Fin 5, (words5.getD i.val ByteArray.empty).size ≤ maxLen := by decide
/-- the words lie in block b -/
def Words (w : World) (b : Nat) : Prop := ∀ i, i < 5 → w.cell? ⟨b, i, none⟩ = some (.string (words5.getD i ByteArray.empty))
theorem Words.kept {w w' : World} {b : Nat} (h : Words w b) (hb : Below w.heap.size w w') : Words w' b := fun i hi =>
  (hb.cell (p := ⟨b, i, none⟩) (block_lt_of_cell (h i hi))).trans (h i hi)
theorem Words.lt {w : World} {b : Nat} (h : Words w b) : b < w.heap.size := block_lt_of_cell (h 0 (by omega))
theorem words_lit (w : World) (t : TypeId) : Words (w.alloc (.cells #[.string ⟨#[80]⟩, .string ⟨#[76]⟩, .string ⟨#[82]⟩, .string ⟨#[80, 76, 82]⟩, .string ⟨#[76, 82, 76]⟩] t)) w.heap.size := fun i hi => by
  rw [cell_of_row _ _ _ _ _ _ (heap_alloc_new _ _)]
  obtain rfl | rfl | rfl | rfl | rfl : i = 0 ∨ i = 1 ∨ i = 2 ∨ i = 3 ∨ i = 4 := by omega
  all_goals rfl
theorem iWalk_wrd (t : Int) (s : ByteArray) (h : Tic.Tri t) (hs : Tic.Wrd s) (w : World) :
    Calls Tryd.prog 20 #[.int .i64 t, .string s] w fun e w' => e = .returned (.int .i64 (Tic.wlk t s s.size)) ∧ Below w.heap.size w w' := by
  have := iWalkOf_yes t s w h (Nat.le_trans hs.1 (by decide))
  rw [if_pos hs] at this
  exact this

set_option maxRecDepth 20000 in
set_option maxHeartbeats 1000000 in
theorem FnShiftTriad_walk (x : Option Addr) (len cap : Nat) (w : World) (h : Code w x len cap) (hsh : Shapes w) :
    Calls Tryd.prog 7 #[.slice x len cap] w fun e w' => e = .returned (.bool true) ∧ Below w.heap.size w w' := by
  have HSH := Lib.hid hsh
  clear hsh
  by_cases hl : 1048576 < len
  · go_enter Tryd.func7, Tryd.ntmps7
    go_wp2_with fail
    go_ret
    exact ⟨rfl, Below.refl _ _⟩
  · go_enter Tryd.func7, Tryd.ntmps7
    go_wp2_with fail
    refine (drawShiftTriad _ _ _ _ h).mono ?_; rintro e w1 ⟨t, k, rfl, t0, t1, k0, k1, hb⟩
    have HB := Lib.hid hb
    clear hb h hl
    by_cases ht : Tic.Tri t ∧ Tic.Turn k
    · have HO := Lib.hid (Tic.shT_tri k ht.1)
      have HT := Lib.hid ht.1
      have HK := Lib.hid ht.2
      have HI := Lib.hid (fun w => iShiftTriad_yes t k w ht.1 ht.2)
      have HS := Lib.hid (fun w => sShiftTriad_yes t k w ht.1 ht.2)
      have HWK : Hid (∀ i, i < 5 → Tic.wlk (Tic.shT t k) (words5.getD i ByteArray.empty) (words5.getD i ByteArray.empty).size = Tic.shT (Tic.wlk t (words5.getD i ByteArray.empty) (words5.getD i ByteArray.empty).size) k) := Lib.hid (fun i hi => Tic.sh_wlk k ht.1 (words5_ok ⟨i, hi⟩).2 _ (Nat.le_refl _))
      have HSET := Lib.hid (Tic.sh_set k ht.1)
      clear ht
      have ho1 := HO.out.1
      generalize Tic.shT t k = o at HO HI HS HWK HSET ho1
      go_wp2_with fail
      refine (HI.out _).mono ?_; rintro e w2 ⟨rfl, rfl⟩
      go_wp2_with fail
      refine (HS.out _).mono ?_; rintro e w2 ⟨rfl, rfl⟩
      go_wp2
      go_loopw [7] (fun t7 wr => ∃ i : Nat, i ≤ 5 ∧ t7 = .int .i64 i ∧ Hid (Words wr w1.heap.size) ∧ Hid (Below w.heap.size w wr)) (fun t7 _ => 5 - (intOf t7).toNat)
      case atStart => exact ⟨0, by omega, rfl, Lib.hid (words_lit _ _), Lib.hid (HB.out.alloc HB.out.size _)⟩
      case round =>
        obtain ⟨i, hi, rfl, HW, HB1⟩ := hrel
        by_cases hlt : i < 5
        · have hcell := HW.out i hlt
          have hbw := HW.out.lt
          have hsv := words5_ok ⟨i, hlt⟩
          have HWE := Lib.hid (HWK.out i hlt)
          have HSV : Hid (Tic.Wrd (words5.getD i ByteArray.empty)) := hsv
          clear hsv
          generalize words5.getD i ByteArray.empty = sv at hcell HWE HSV
          have HC1 := Lib.hid (iWalk_wrd o sv HO.out HSV.out)
          have HC2 := Lib.hid (iWalk_wrd t sv HT.out HSV.out)
          have HT2 := Lib.hid (Tic.wlk_tri sv HT.out sv.size)
          rw [HWE.out] at HC1
          generalize Tic.wlk t sv sv.size = r2 at HC1 HC2 HT2
          have HC3 := Lib.hid (fun w => iShiftTriad_yes r2 k w HT2.out HK.out)
          generalize Tic.shT r2 k = r1 at HC1 HC3
          clear HWE
          have hk0 : Below wr.heap.size wr wr := Below.refl _ _
          have hi2 : (i : Int) < 5 := by omega
          go_wp2_with fail
          go_region_held3 (fun w' => w'.cell? ⟨w1.heap.size, i, none⟩ = some (.string sv))
            (first | go_keep | (refine (hk0.cell ?_).trans ?_ <;> assumption))
            (first | (go_at_call_of 20 (Value.int IntKind.i64 o); refine (HC1.out _).mono ?_; rintro e wx ⟨rfl, hb⟩; replace hk0 : Below wr.heap.size wr wx := (by first | exact grow1t hk0 hb | exact grow0t hk0 hb); clear hb) | (go_at_call_of 20 (Value.int IntKind.i64 t); refine (HC2.out _).mono ?_; rintro e wx ⟨rfl, hb⟩; replace hk0 : Below wr.heap.size wr wx := (by first | exact grow1t hk0 hb | exact grow0t hk0 hb); clear hb) | (go_at_call 23; refine (HC3.out _).mono ?_; rintro e wx ⟨rfl, rfl⟩))
          have HW2 := Lib.hid (HW.out.kept hk0)
          have HB2 := Lib.hid (HB1.out.trans (hk0.mono HB1.out.size))
          clear hk0 hbw
          go_wp2
          go_roundw
          case rel => exact ⟨i + 1, by omega, by go_num, HW2, HB2⟩
          case measure => simp [intOf]; omega
        · obtain rfl : i = 5 := by omega
          have HO2 := Lib.hid (fun w hw => iTriadSet_yes o w HO.out hw)
          have HT2 := Lib.hid (fun w hw => iTriadSet_yes t w HT.out hw)
          have HV := Lib.hid (valid12 (Tic.triSet_lt t))
          have HSS : Hid (∀ w, Calls Tryd.prog 25 #[.int .i64 12, .int .i64 (Tic.triSet t : Int), .int .i64 k] w fun e w' => e = .returned (.int .i64 (Tic.shf 12 k (Tic.triSet t) : Int)) ∧ Below w.heap.size w w') :=
            Lib.hid (fun w => iShiftSet_yes 12 (Tic.triSet t : Int) k w HV.out HK.out)
          rw [HSET.out] at HO2
          generalize Tic.shf 12 k (Tic.triSet t) = y at HO2 HSS
          generalize Tic.triSet t = z at HT2 HSS
          go_wp2_with fail
          refine (HO2.out _ (HSH.out.kept HB1.out)).mono ?_; rintro e w2 ⟨rfl, hb2⟩
          replace HB1 := Lib.hid (HB1.out.trans (hb2.mono HB1.out.size))
          clear hb2 HW
          go_wp2_with fail
          refine (HT2.out _ (HSH.out.kept HB1.out)).mono ?_; rintro e w3 ⟨rfl, hb3⟩
          replace HB1 := Lib.hid (HB1.out.trans (hb3.mono HB1.out.size))
          clear hb3
          go_wp2_with fail
          refine (HSS.out _).mono ?_; rintro e w4 ⟨rfl, hb4⟩
          replace HB1 := Lib.hid (HB1.out.trans (hb4.mono HB1.out.size))
          clear hb4
          go_wp2_with fail
          go_ret
          exact ⟨ret_bool (by simp), HB1.out⟩
    · go_wp2_with fail
      refine (iShiftTriad_no _ _ _ ht).mono ?_; rintro e w2 ⟨rfl, rfl⟩
      go_wp2_with fail
      refine (sShiftTriad_no _ _ _ ht).mono ?_; rintro e w2 ⟨rfl, rfl⟩
      go_wp2_with fail
      refine (sShiftTriad_no _ _ _ ht).mono ?_; rintro e w2 ⟨rfl, rfl⟩
      go_wp2_with fail
      go_ret
      exact ⟨rfl, HB.out⟩
theorem trnT_eq {t k : Int} (h : Tic.Tri t) : (trnT t k : Int) = Tic.trF t k := by
  unfold trnT
  rw [Tic.tr_set k h]
  show (((Tic.trF t k).toNat : Nat) : Int) = _
  have := (Tic.trF_tri (t := t) k).1
  omega
theorem iTurnT (t k : Int) (w : World) (h : Tic.Tri t) (hk : Tic.Turn k) (hsh : Shapes w) :
    Calls Tryd.prog 27 #[.int .i64 t, .int .i64 k] w fun e w' => e = .returned (.int .i64 (Tic.trF t k)) ∧ Below w.heap.size w w' := by
  rw [← trnT_eq h]
  obtain ⟨n, hn, rfl⟩ := Tic.tri_nat h
  exact iTurnTriad_yes n k w hn hk hsh
theorem sTurnT (t k : Int) (w : World) (h : Tic.Tri t) (hk : Tic.Turn k) :
    Calls Tryd.prog 28 #[.int .i64 t, .int .i64 k] w fun e w' => e = .returned (.int .i64 (Tic.trF t k)) ∧ w = w' := by
  rw [← trnT_eq h]
  obtain ⟨n, hn, rfl⟩ := Tic.tri_nat h
  exact sTurnTriad_yes n k w hn hk
set_option maxRecDepth 20000 in
set_option maxHeartbeats 1000000 in
theorem FnTurnTriad_walk (x : Option Addr) (len cap : Nat) (w : World) (h : Code w x len cap) (hsh : Shapes w) :
    Calls Tryd.prog 8 #[.slice x len cap] w fun e w' => e = .returned (.bool true) ∧ Below w.heap.size w w' := by
  have HSH := Lib.hid hsh
  clear hsh
  by_cases hl : 1048576 < len
  · go_enter Tryd.func8, Tryd.ntmps8
    go_wp2_with fail
    go_ret
    exact ⟨rfl, Below.refl _ _⟩
  · go_enter Tryd.func8, Tryd.ntmps8
    go_wp2_with fail
    refine (drawTurnTriad _ _ _ _ h).mono ?_; rintro e w1 ⟨t, k, rfl, t0, t1, k0, k1, hb⟩
    have HB := Lib.hid hb
    clear hb h hl
    by_cases ht : Tic.Tri t ∧ Tic.Turn k
    · have HO := Lib.hid (Tic.trF_tri (t := t) k)
      have HT := Lib.hid ht.1
      have HK := Lib.hid ht.2
      have HI := Lib.hid (fun w hw => iTurnT t k w ht.1 ht.2 hw)
      have HS := Lib.hid (fun w => sTurnT t k w ht.1 ht.2)
      have HWK : Hid (∀ i, i < 5 → Tic.wlk (Tic.trF t k) (words5.getD i ByteArray.empty) (words5.getD i ByteArray.empty).size = Tic.trF (Tic.wlk t (words5.getD i ByteArray.empty) (words5.getD i ByteArray.empty).size) k) := Lib.hid (fun i hi => Tic.tr_wlk k ht.1 (words5_ok ⟨i, hi⟩).2 _ (Nat.le_refl _))
      have HBK := Lib.hid (Tic.tr_back k ht.1)
      have hpar := (Tic.tr_back k ht.1).2
      have HI2 := Lib.hid (fun w hw => iTurnT (Tic.trF t k) k w (Tic.trF_tri k) ht.2 hw)
      rw [(Tic.tr_back k ht.1).1] at HI2
      have ht0 := ht.1.1
      have ht1 := ht.1.2
      clear ht
      have ho1 := HO.out.1
      have ho2 := HO.out.2
      generalize Tic.trF t k = o at HO HI HS HWK HBK HI2 hpar ho1 ho2
      go_wp2_with fail
      refine (HI.out _ (HSH.out.kept HB.out)).mono ?_; rintro e w2 ⟨rfl, hb⟩
      replace HB := Lib.hid (HB.out.trans (hb.mono HB.out.size))
      clear hb
      go_wp2_with fail
      refine (HS.out _).mono ?_; rintro e w3 ⟨rfl, rfl⟩
      go_wp2
      go_loopw [7] (fun t7 wr => ∃ i : Nat, i ≤ 5 ∧ t7 = .int .i64 i ∧ Hid (Words wr w2.heap.size) ∧ Hid (Below w.heap.size w wr)) (fun t7 _ => 5 - (intOf t7).toNat)
      case atStart => exact ⟨0, by omega, rfl, Lib.hid (words_lit _ _), Lib.hid (HB.out.alloc HB.out.size _)⟩
      case round =>
        obtain ⟨i, hi, rfl, HW, HB1⟩ := hrel
        by_cases hlt : i < 5
        · have hcell := HW.out i hlt
          have hbw := HW.out.lt
          have hsv := words5_ok ⟨i, hlt⟩
          have HWE := Lib.hid (HWK.out i hlt)
          have HSV : Hid (Tic.Wrd (words5.getD i ByteArray.empty)) := hsv
          clear hsv
          generalize words5.getD i ByteArray.empty = sv at hcell HWE HSV
          have HC1 := Lib.hid (iWalk_wrd o sv HO.out HSV.out)
          have HC2 := Lib.hid (iWalk_wrd t sv HT.out HSV.out)
          have HT2 := Lib.hid (Tic.wlk_tri sv HT.out sv.size)
          rw [HWE.out] at HC1
          generalize Tic.wlk t sv sv.size = r2 at HC1 HC2 HT2
          have HC3 := Lib.hid (fun w hw => iTurnT r2 k w HT2.out HK.out hw)
          generalize Tic.trF r2 k = r1 at HC1 HC3
          clear HWE
          have hk0 : Below wr.heap.size wr wr := Below.refl _ _
          have HSHW := Lib.hid (HSH.out.kept HB1.out)
          have hi2 : (i : Int) < 5 := by omega
          go_wp2_with fail
          go_region_held3 (fun w' => w'.cell? ⟨w2.heap.size, i, none⟩ = some (.string sv))
            (first | go_keep | (refine (hk0.cell ?_).trans ?_ <;> assumption))
            (first | (go_at_call_of 20 (Value.int IntKind.i64 o); refine (HC1.out _).mono ?_; rintro e wx ⟨rfl, hb⟩; replace hk0 : Below wr.heap.size wr wx := (by first | exact grow1t hk0 hb | exact grow0t hk0 hb); clear hb) | (go_at_call_of 20 (Value.int IntKind.i64 t); refine (HC2.out _).mono ?_; rintro e wx ⟨rfl, hb⟩; replace hk0 : Below wr.heap.size wr wx := (by first | exact grow1t hk0 hb | exact grow0t hk0 hb); clear hb) | (go_at_call 27; refine (HC3.out _ (show Shapes _ from (HSHW.out.kept hk0))).mono ?_; rintro e wx ⟨rfl, hb⟩; replace hk0 : Below wr.heap.size wr wx := (by first | exact grow1t hk0 hb | exact grow0t hk0 hb); clear hb))
          have HW2 := Lib.hid (HW.out.kept hk0)
          have HB2 := Lib.hid (HB1.out.trans (hk0.mono HB1.out.size))
          clear hk0 hbw
          go_wp2
          go_roundw
          case rel => exact ⟨i + 1, by omega, by go_num, HW2, HB2⟩
          case measure => simp [intOf]; omega
        · obtain rfl : i = 5 := by omega
          clear HW
          have hq : ((o + t) % 2 == 1) = true := by rw [hpar]; rfl
          go_wp2_with fail
          refine (HI2.out _ (HSH.out.kept HB1.out)).mono ?_; rintro e w2 ⟨rfl, hb2⟩
          replace HB1 := Lib.hid (HB1.out.trans (hb2.mono HB1.out.size))
          clear hb2
          go_wp2_with fail
          go_ret
          exact ⟨ret_bool (by simp), HB1.out⟩
    · go_wp2_with fail
      refine (iTurnTriad_no _ _ _ ht).mono ?_; rintro e w2 ⟨rfl, rfl⟩
      go_wp2_with fail
      refine (sTurnTriad_no _ _ _ ht).mono ?_; rintro e w2 ⟨rfl, rfl⟩
      go_wp2_with fail
      refine (sTurnTriad_no _ _ _ ht).mono ?_; rintro e w2 ⟨rfl, rfl⟩
      go_wp2_with fail
      go_ret
      exact ⟨rfl, HB.out⟩
end Go.Proofs.YtjlbgccffpkmiaaDoor
