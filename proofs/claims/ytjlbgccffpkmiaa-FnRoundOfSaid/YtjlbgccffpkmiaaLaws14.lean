/-
  The walk of the law of rounds of steps.
-/
import Derived.Test.YtjlbgccffpkmiaaTriDraw
import Derived.Test.YtjlbgccffpkmiaaTriRound
import Derived.Test.YtjlbgccffpkmiaaEqInts
import Derived.Deep.RegionHeld3
namespace Go.Proofs.Ytjlbgccffpkmiaa
open Go.RowKit
set_option linter.unusedVariables false

theorem grow1r {a b d : World} (h : Below a.heap.size a b) (k : Below b.drew.heap.size b.drew d) : Below a.heap.size a d := h.drew.trans (k.mono h.size)
theorem grow0r {a b d : World} (h : Below a.heap.size a b) (k : Below b.heap.size b d) : Below a.heap.size a d := h.trans (k.mono h.size)
theorem row_lens {w : World} {B : Nat} {v : Value} {L : List Int} (h : Row w B v L) : ∃ a c, v = .slice a L.length c := by
  rcases h.cases with ⟨e, e2⟩ | ⟨g, cap, e, _⟩
  · exact ⟨none, 0, by rw [e, e2]; rfl⟩
  · exact ⟨_, _, e⟩
/-- what both tell of a round -/
theorem round_both (t : Int) (s : ByteArray) (hm : s.size ≤ maxLen) : ∃ L : List Int, (∀ w, Calls Try.prog 6 #[.int .i64 t, .string s] w (Gives L w)) ∧ (∀ w, Calls Try.prog 8 #[.int .i64 t, .string s] w (Gives L w)) ∧
    (L = [] ∨ (Tic.Tri t ∧ Tic.Wrd s ∧ s.size ≠ 0 ∧ ∃ R, Tic.Back t s R ∧ L = Tic.rnd t s (R * s.size))) := by
  by_cases h0 : s.size = 0
  · obtain rfl := empty_of_size h0
    by_cases h : Tic.Tri t
    · exact ⟨[], fun w => iRoundOf_nil _ w, fun w => sRoundOf_nil _ w h, .inl rfl⟩
    · exact ⟨[], fun w => iRoundOf_nil _ w, fun w => sRoundOf_tri _ _ w h, .inl rfl⟩
  by_cases h : Tic.Tri t
  · by_cases hw : Tic.Wrd s
    · obtain ⟨R, hR⟩ := Tic.back_ex hw.2 h
      exact ⟨_, fun w => iRoundOf_yes _ _ R w h hw h0 hR, fun w => sRoundOf_yes _ _ R w h hw h0 hR, .inr ⟨h, hw, h0, R, hR, rfl⟩⟩
    · exact ⟨[], fun w => iRoundOf_wrd _ _ w h hm h0 hw, fun w => sRoundOf_wrd _ _ w h hm hw, .inl rfl⟩
  · exact ⟨[], fun w => iRoundOf_tri _ _ w h h0, fun w => sRoundOf_tri _ _ w h, .inl rfl⟩
set_option maxRecDepth 20000 in
set_option maxHeartbeats 2000000 in
theorem FnRoundOf_walk (x : Option Addr) (len cap : Nat) (w : World) (h : Code w x len cap) :
    Calls Try.prog 3 #[.slice x len cap] w fun e w' => e = .returned (.bool true) ∧ Below w.heap.size w w' := by
  by_cases hl : 1048576 < len
  · go_enter Try.func3, Try.ntmps3
    go_wp2_with fail
    go_ret
    exact ⟨rfl, Below.refl _ _⟩
  · go_enter Try.func3, Try.ntmps3
    go_wp2_with fail
    refine (drawRoundOf _ _ _ _ h).mono ?_; rintro e w1 ⟨t, s, rfl, t0, t1, hs20, hb⟩
    have HB := Lib.hid hb
    clear hb h hl
    obtain ⟨L, hI, hS, hL⟩ := round_both t s (Nat.le_trans hs20 (by decide))
    have HI := Lib.hid hI
    have HS := Lib.hid hS
    clear hI hS
    go_wp2_with fail
    refine (HI.out _).mono ?_; rintro e w2 ⟨v1, rfl, r1, b2⟩
    obtain ⟨a1, c1, rfl⟩ := row_lens r1
    have R1 := Lib.hid r1
    have HB1 := Lib.hid (HB.out.trans (b2.mono HB.out.size))
    clear r1 b2
    go_wp2_with fail
    refine (HS.out _).mono ?_; rintro e w3 ⟨v2, rfl, r2, b3⟩
    have R2 := Lib.hid r2
    have R1' := Lib.hid (R1.out.kept b3)
    have HB2 := Lib.hid (HB1.out.trans (b3.mono HB1.out.size))
    clear r2 b3 R1
    go_wp2_with fail
    refine (equalInts_yes _ _ _ _ _ _ R1'.out R2.out).mono ?_; rintro e w4 ⟨rfl, b4⟩
    have R1 := Lib.hid (R1'.out.kept b4)
    have HB3 := Lib.hid (HB2.out.trans (b4.mono HB2.out.size))
    clear b4 R1' R2 HB1 HB2
    rcases hL with rfl | ⟨ht, hw, h0, R, hR, rfl⟩
    · go_wp2_with fail
      refine (HS.out _).mono ?_; rintro e w5 ⟨v3, rfl, r3, b5⟩
      have R3 := Lib.hid r3
      have R1' := Lib.hid (R1.out.kept b5)
      have HB4 := Lib.hid (HB3.out.trans (b5.mono HB3.out.size))
      clear r3 b5
      go_wp2_with fail
      refine (equalInts_yes _ _ _ _ _ _ R1'.out R3.out).mono ?_; rintro e w6 ⟨rfl, b6⟩
      have HB5 := Lib.hid (HB4.out.trans (b6.mono HB4.out.size))
      clear b6
      go_wp2_with fail
      go_ret
      exact ⟨rfl, HB5.out⟩
    · have hM1 : 1 ≤ R * s.size := Nat.mul_pos hR.1 (by omega)
      have hM2 : R * s.size ≤ 96 := Nat.mul_le_mul (show R ≤ 12 from hR.2.1) hw.1
      obtain ⟨M, hM⟩ : ∃ M, M = R * s.size := ⟨_, rfl⟩
      rw [← hM] at R1 HI HS hM1 hM2 ⊢
      have HM := Lib.hid hM
      have HR := Lib.hid hR
      have HW := Lib.hid hw
      have HT := Lib.hid ht
      rw [Tic.rnd_length] at R1 ⊢
      have hML : ((M : Int) == 0) = false := by simp; omega
      clear hM hR ht HI HS
      have hn8 := hw.1
      clear hw
      obtain ⟨g, hg⟩ : ∃ g, a1 = some ⟨g, 0, none⟩ := by
        rcases R1.out.cases with ⟨e, e2⟩ | ⟨g, cap, e, _⟩
        · have := congrArg List.length e2; rw [Tic.rnd_length] at this; simp at this; omega
        · injection e with e1; exact ⟨g, e1⟩
      subst hg
      have HC0 : Hid (∀ j, j < M → w4.cell? ⟨g, j, none⟩ = some (.int .i64 (Tic.posn t s j))) := Lib.hid (fun j hj => by
        rcases R1.out.cases with ⟨e, _⟩ | ⟨g', cap, e, _, _, hc, _⟩
        · cases e
        · injection e with e1 e2 e3
          injection e1 with e1
          injection e1 with e1
          rw [← Tic.rnd_getD t s M j hj, e1]
          exact hc j (by rw [Tic.rnd_length]; exact hj))
      go_wp2
      go_loopw [6] (fun t6 wr => ∃ i : Nat, i ≤ M ∧ t6 = .int .i64 i ∧ Hid (∀ j, j < M → wr.cell? ⟨g, j, none⟩ = some (.int .i64 (Tic.posn t s j))) ∧ Hid (Below w.heap.size w wr)) (fun t6 _ => M - (intOf t6).toNat)
      case atStart => exact ⟨0, by omega, rfl, HC0, HB3⟩
      case round =>
        obtain ⟨i, hi, rfl, HC, HBr⟩ := hrel
        by_cases hlt : i < M
        · have hci := HC.out i hlt
          obtain ⟨j, hj⟩ : ∃ j, j = (i + 1) % M := ⟨_, rfl⟩
          obtain ⟨k, hk⟩ : ∃ k, k = i % s.size := ⟨_, rfl⟩
          have hjM : j < M := by rw [hj]; exact Nat.mod_lt _ (by omega)
          have hkn : k < s.size := by rw [hk]; exact Nat.mod_lt _ (by omega)
          have hcj := HC.out j hjM
          have hki : (i : Int) % (s.size : Int) = (k : Int) := by rw [hk]; exact (Int.natCast_emod _ _).symm
          have hji : ((i : Int) + 1) % (M : Int) = (j : Int) := by rw [hj]; rw [Int.natCast_emod]; rfl
          have HP : Hid (Tic.posn t s j = Tic.stp (Tic.posn t s i) (Tic.bt s k)) := Lib.hid (by
            have e1 : Tic.posn t s (i + 1) = Tic.stp (Tic.posn t s i) (Tic.bt s k) := by rw [hk]; rfl
            by_cases e : i + 1 < M
            · rw [hj, Nat.mod_eq_of_lt e]; exact e1
            · have e2 : i + 1 = M := by omega
              rw [hj, e2, Nat.mod_self, ← e1, e2, HM.out, HR.out.2.2.1]
              rfl)
          have HCW : Hid (∀ w, Calls Try.prog 9 #[.int .i64 (Tic.posn t s i), .string (s.extract k (k + 1))] w fun e w' => e = .returned (.int .i64 (Tic.posn t s j)) ∧ Below w.heap.size w w') := Lib.hid (fun w => by
            have hone : (s.extract k (k + 1)).size = 1 := by rw [ByteArray.size_extract]; omega
            have hbt : Tic.bt (s.extract k (k + 1)) 0 = Tic.bt s k := by
              unfold Tic.bt
              rw [dif_pos (by omega), dif_pos hkn, ByteArray.getElem_extract]
              rfl
            have hwd : Tic.Wrd (s.extract k (k + 1)) := ⟨by omega, fun q hq => by
              have : q = 0 := by omega
              rw [this, hbt]; exact HW.out.2 k hkn⟩
            have := iWalkOf_yes (Tic.posn t s i) (s.extract k (k + 1)) w (Tic.posn_tri s HT.out i) (Nat.le_trans hwd.1 (by decide))
            rw [if_pos hwd, hone] at this
            rw [HP.out, ← hbt]
            exact this)
          clear HP hj hk
          generalize Tic.posn t s i = y1 at hci HCW
          generalize Tic.posn t s j = y2 at hcj HCW
          have hiI : (i : Int) < (M : Int) := by omega
          have hjI : (j : Int) < (M : Int) := by omega
          have hkI : (k : Int) + 1 ≤ (s.size : Int) := by omega
          have hgl : g < wr.heap.size := block_lt_of_cell hci
          have hk0 : Below wr.heap.size wr wr := Below.refl _ _
          have hM0 : ¬ M = 0 := by omega
          have hs1 := IntWalk.i64_in ((k : Int) + 1) (by omega)
          have hs2 := IntWalk.i64_in ((i : Int) + 1) (by omega)
          have htm : ((i : Int) + 1).tmod (M : Int) = (j : Int) := by rw [Int.tmod_eq_emod_of_nonneg (by omega)]; exact hji
          have hk1 : (0 : Int) ≤ (k : Int) := by omega
          have hk2 : (k : Int) ≤ (k : Int) + 1 := by omega
          have htn : ((k : Int) + 1).toNat = k + 1 := by omega
          go_wp2
          rw [hki]
          clear hki hji
          go_region_held3 (fun w' => w'.cell? ⟨g, i, none⟩ = some (.int .i64 y1) ∧ w'.cell? ⟨g, j, none⟩ = some (.int .i64 y2))
            (first | go_keep | (refine ⟨?_, ?_⟩ <;> ((refine (hk0.cell ?_).trans ?_) <;> assumption)))
            (first | (go_at_call 9; refine (HCW.out _).mono ?_; rintro e wx ⟨rfl, hb⟩; replace hk0 : Below wr.heap.size wr wx := (by first | exact grow1r hk0 hb | exact grow0r hk0 hb); clear hb) | fail)
          all_goals
            have HC2 : Hid (∀ j, j < M → wx.cell? ⟨g, j, none⟩ = some (.int .i64 (Tic.posn t s j))) := Lib.hid (fun q hq => (hk0.cell (p := ⟨g, q, none⟩) hgl).trans (HC.out q hq))
            have HB2 := Lib.hid (HBr.out.trans (hk0.mono HBr.out.size))
            clear hk0 hgl
            go_wp2
            go_roundw
            case rel => exact ⟨i + 1, by omega, by go_num, HC2, HB2⟩
            case measure => simp [intOf]; omega
        · obtain rfl : i = M := by omega
          have key : ∀ a b : UInt8, s.toList = [a, b] → s = Tic.wrd2 a b := fun a b e => by
            rw [ByteArray.toList_eq] at e
            apply ByteArray.ext
            apply Array.toList_inj.1
            exact e
          have hsz2 : ∀ a b : UInt8, s = Tic.wrd2 a b → s.size = 2 := fun a b e => by rw [e]; rfl
          have F1 : s.toList = [80, 76] → i = 6 := fun e => by
            have e2 := key _ _ e
            rw [HM.out, hsz2 _ _ e2]
            exact (Tic.back_PL HT.out).1 (by rw [← e2]; exact HR.out)
          have F2 : s.toList = [76, 80] → i = 6 := fun e => by
            have e2 := key _ _ e
            rw [HM.out, hsz2 _ _ e2]
            exact (Tic.back_PL HT.out).2 (by rw [← e2]; exact HR.out)
          have F3 : s.toList = [80, 82] → i = 8 := fun e => by
            have e2 := key _ _ e
            rw [HM.out, hsz2 _ _ e2]
            exact (Tic.back_PR HT.out).1 (by rw [← e2]; exact HR.out)
          have F4 : s.toList = [82, 80] → i = 8 := fun e => by
            have e2 := key _ _ e
            rw [HM.out, hsz2 _ _ e2]
            exact (Tic.back_PR HT.out).2 (by rw [← e2]; exact HR.out)
          have F5 : s.toList = [76, 82] → i = 24 := fun e => by
            have e2 := key _ _ e
            rw [HM.out, hsz2 _ _ e2]
            exact (Tic.back_LR HT.out).1 (by rw [← e2]; exact HR.out)
          have F6 : s.toList = [82, 76] → i = 24 := fun e => by
            have e2 := key _ _ e
            rw [HM.out, hsz2 _ _ e2]
            exact (Tic.back_LR HT.out).2 (by rw [← e2]; exact HR.out)
          clear key hsz2
          have hc0 : wr.cell? ⟨g, 0, none⟩ = some (.int .i64 t) := HC.out 0 (by omega)
          have hn0 : ¬ s.size = 0 := by omega
          have HMN2 : Hid (((i : Int) % (s.size : Int) == 0) = true) := Lib.hid (by
            rw [← Int.natCast_emod, HM.out, Nat.mul_mod_left]
            rfl)
          have fin : ∀ q : Nat, i = q → (((i : Int) == (q : Int)) = true) := fun q e => by rw [e]; simp
          by_cases e1 : s.toList = [80, 76]
          · have hq := fin _ (F1 e1)
            clear F1 F2 F3 F4 F5 F6 fin
            go_wp2
            go_ret
            exact ⟨ret_bool hq, HBr.out⟩
          by_cases e2 : s.toList = [76, 80]
          · have hq := fin _ (F2 e2)
            clear F1 F2 F3 F4 F5 F6 fin
            go_wp2
            go_ret
            exact ⟨ret_bool hq, HBr.out⟩
          by_cases e3 : s.toList = [80, 82]
          · have hq := fin _ (F3 e3)
            clear F1 F2 F3 F4 F5 F6 fin
            go_wp2
            go_ret
            exact ⟨ret_bool hq, HBr.out⟩
          by_cases e4 : s.toList = [82, 80]
          · have hq := fin _ (F4 e4)
            clear F1 F2 F3 F4 F5 F6 fin
            go_wp2
            go_ret
            exact ⟨ret_bool hq, HBr.out⟩
          by_cases e5 : s.toList = [76, 82]
          · have hq := fin _ (F5 e5)
            clear F1 F2 F3 F4 F5 F6 fin
            go_wp2
            go_ret
            exact ⟨ret_bool hq, HBr.out⟩
          by_cases e6 : s.toList = [82, 76]
          · have hq := fin _ (F6 e6)
            clear F1 F2 F3 F4 F5 F6 fin
            go_wp2
            go_ret
            exact ⟨ret_bool hq, HBr.out⟩
          clear F1 F2 F3 F4 F5 F6 fin
          have b1 : (s.toList == [80, 76]) = false := by simpa using e1
          have b2 : (s.toList == [76, 80]) = false := by simpa using e2
          have b3 : (s.toList == [80, 82]) = false := by simpa using e3
          have b4 : (s.toList == [82, 80]) = false := by simpa using e4
          have b5 : (s.toList == [76, 82]) = false := by simpa using e5
          have b6 : (s.toList == [82, 76]) = false := by simpa using e6
          clear e1 e2 e3 e4 e5 e6
          go_wp2
          go_ret
          exact ⟨ret_bool HMN2.out, HBr.out⟩
end Go.Proofs.Ytjlbgccffpkmiaa
