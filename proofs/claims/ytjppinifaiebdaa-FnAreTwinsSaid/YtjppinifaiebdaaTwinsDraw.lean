/-
  The draw of the arguments of AreTwins, and the walk of its law.
-/
import Derived.Test.YtjppinifaiebdaaLaws2
import Derived.Test.YtjppinifaiebdaaTwins
namespace Go.Proofs.Ytjppinifaiebdaa
open Go.RowKit
set_option linter.unusedVariables false

/-- a circle and two sets are drawn -/
def Pair (w : World) (e : Ending) (w' : World) : Prop := ∃ n a b : Int, e = .returned (.tuple #[.int .i64 n, .int .i64 a, .int .i64 b]) ∧ -1 ≤ n ∧ n ≤ 13 ∧ -1 ≤ a ∧ a ≤ 1000000 ∧ -1 ≤ b ∧ b ≤ 1000000 ∧ Below w.heap.size w w'

theorem shift_ex (n s t : Int) (w : World) (hv : Tic.Valid n s) (ht : Tic.Turn t) :
    Calls Try.prog 48 #[.int .i64 n, .int .i64 s, .int .i64 t] w fun e w' => ∃ P : Nat, e = .returned (.int .i64 P) ∧ P < 4096 ∧ w = w' :=
  (sshift_any n s t w hv ht).mono fun e w' ⟨h2, h3⟩ => ⟨_, h2, Tic.shf_lt12 hv t, h3⟩
theorem turn_ex (n s t : Int) (w : World) (hv : Tic.Valid n s) (ht : Tic.Turn t) :
    Calls Try.prog 51 #[.int .i64 n, .int .i64 s, .int .i64 t] w fun e w' => ∃ P : Nat, e = .returned (.int .i64 P) ∧ P < 4096 ∧ w = w' :=
  (sturn_any n s t w hv ht).mono fun e w' ⟨h2, h3⟩ => ⟨_, h2, Tic.tur_lt12 hv t, h3⟩
theorem valid_8 {s : Int} (h0 : 0 ≤ s) (h1 : s < 256) : Tic.Valid 8 s := ⟨by omega, by omega, h0, by simpa using h1⟩
theorem valid_12 {s : Int} (h0 : 0 ≤ s) (h1 : s < 4096) : Tic.Valid 12 s := ⟨by omega, by omega, h0, by simpa using h1⟩

set_option maxRecDepth 20000 in
set_option maxHeartbeats 2000000 in
theorem drawAreTwins (x : Option Addr) (len cap : Nat) (w : World) (h : Code w x len cap) : Calls Try.prog 35 #[.slice x len cap] w (Pair w) := by
  obtain ⟨zs, h1, h2, h3⟩ := h
  go_enter Try.func35, Try.ntmps35
  go_wp2_with fail
  refine (newReader_any _ _ _ _ _ h1 h2 h3).mono ?_; rintro e w1 ⟨rfl, hrd, hb, _⟩
  have HB := Lib.hid hb
  clear hb h1
  go_wp2_with fail
  refine (pick_pos _ _ _ _ hrd (by omega) (by omega) (by omega)).mono ?_; rintro e w2 ⟨r0, rfl, p0, p1, H1, G1⟩
  replace HB := Lib.hid (below_grown HB.out G1.out)
  clear hrd G1
  rcases (show r0 = 0 ∨ r0 = 1 ∨ (r0 ≠ 0 ∧ r0 ≠ 1) by omega) with c | c | ⟨c, c2⟩
  · subst c
    go_wp2_with fail
    refine (pick_pos _ _ _ _ H1.out (by omega) (by omega) (by omega)).mono ?_; rintro e w3 ⟨r1, rfl, q0, q1, H2, G2⟩
    replace HB := Lib.hid (below_grown HB.out G2.out)
    clear H1 G2
    go_wp2_with fail
    refine (shift_ex _ _ _ _ (valid_8 (by omega) (by omega)) ⟨by omega, by omega⟩).mono ?_; rintro e w4 ⟨P, rfl, hP, rfl⟩
    go_wp2_with fail
    refine (one_lit [43, 23, 29] _ _ 23 43 _ _ _ rfl rfl H2.out (by omega) (by simp) (by simp) ?_).mono ?_
    · intro y hy; simp at hy; omega
    rintro e w5 ⟨y, p', rfl, y0, y1, hp', hrd, hgr⟩
    replace HB := Lib.hid (below_grown HB.out hgr)
    have H3 := Lib.hid hrd
    clear H2 hgr hrd
    go_wp2_with fail
    refine (pick_pos _ _ _ _ H3.out (by omega) (by omega) (by omega)).mono ?_; rintro e w6 ⟨r2, rfl, q2, q3, H4, G4⟩
    replace HB := Lib.hid (below_grown HB.out G4.out)
    clear H3 G4
    go_wp2_with fail
    refine (shift_ex _ _ _ _ (valid_8 (by omega) (by omega)) ⟨by omega, by omega⟩).mono ?_; rintro e w7 ⟨Q, rfl, hQ, rfl⟩
    go_wp2_with fail
    go_ret3
    exact ⟨8, P, Q, rfl, by omega, by omega, by omega, by omega, by omega, by omega, HB.out⟩
  · subst c
    go_wp2_with fail
    refine (pick_pos _ _ _ _ H1.out (by omega) (by omega) (by omega)).mono ?_; rintro e w3 ⟨r1, rfl, q0, q1, H2, G2⟩
    replace HB := Lib.hid (below_grown HB.out G2.out)
    clear H1 G2
    go_wp2_with fail
    refine (shift_ex _ _ _ _ (valid_12 (by omega) (by omega)) ⟨by omega, by omega⟩).mono ?_; rintro e w4 ⟨P, rfl, hP, rfl⟩
    go_wp2_with fail
    refine (one_lit [139, 83] _ _ 83 139 _ _ _ rfl rfl H2.out (by omega) (by simp) (by simp) ?_).mono ?_
    · intro y hy; simp at hy; omega
    rintro e w5 ⟨y, p', rfl, y0, y1, hp', hrd, hgr⟩
    replace HB := Lib.hid (below_grown HB.out hgr)
    have H3 := Lib.hid hrd
    clear H2 hgr hrd
    go_wp2_with fail
    refine (pick_pos _ _ _ _ H3.out (by omega) (by omega) (by omega)).mono ?_; rintro e w6 ⟨r2, rfl, q2, q3, H4, G4⟩
    replace HB := Lib.hid (below_grown HB.out G4.out)
    clear H3 G4
    go_wp2_with fail
    refine (turn_ex _ _ _ _ (valid_12 (by omega) (by omega)) ⟨by omega, by omega⟩).mono ?_; rintro e w7 ⟨Q, rfl, hQ, rfl⟩
    go_wp2_with fail
    go_ret3
    exact ⟨12, P, Q, rfl, by omega, by omega, by omega, by omega, by omega, by omega, HB.out⟩
  · go_wp2_with fail
    refine (aSet_any _ _ _ H1.out (by omega)).mono ?_; rintro e w3 ⟨n, s, p', rfl, n0, n1, s0, s1, hp, hr, hg⟩
    replace HB := Lib.hid (below_grown HB.out hg)
    have H2 := Lib.hid hr
    clear H1 hg hr
    go_wp2_with fail
    refine (pick_pos _ _ _ _ H2.out (by omega) (by omega) (by omega)).mono ?_; rintro e w4 ⟨r1, rfl, q0, q1, H3, G3⟩
    replace HB := Lib.hid (below_grown HB.out G3.out)
    clear H2 G3
    by_cases hr1 : r1 = 0
    · subst hr1
      by_cases hv : Tic.Valid n s
      · go_wp2_with fail
        refine (validSet_yes _ _ _ hv).mono ?_; rintro e w5 ⟨rfl, rfl⟩
        have hN := hv.1
        go_wp2_with fail
        refine (pick_pos _ _ _ _ H3.out (by omega) (by omega) (by omega)).mono ?_; rintro e w6 ⟨r2, rfl, q2, q3, H4, G4⟩
        replace HB := Lib.hid (below_grown HB.out G4.out)
        clear H3 G4
        go_wp2_with fail
        refine (turn_ex _ _ _ _ hv ⟨by omega, by omega⟩).mono ?_; rintro e w7 ⟨Q, rfl, hQ, rfl⟩
        go_wp2_with fail
        go_ret3
        exact ⟨n, s, Q, rfl, n0, n1, s0, s1, by omega, by omega, HB.out⟩
      · go_wp2_with fail
        refine (validSet_no _ _ _ hv).mono ?_; rintro e w5 ⟨rfl, rfl⟩
        go_wp2_with fail
        refine (setOf_any _ _ _ _ H3.out (by omega) (by omega) (by omega)).mono ?_; rintro e w6 ⟨t, p2, rfl, t0, t1, hp2, hr2, hg2⟩
        replace HB := Lib.hid (below_grown HB.out hg2)
        go_wp2_with fail
        go_ret3
        exact ⟨n, s, t, rfl, n0, n1, s0, s1, t0, t1, HB.out⟩
    · go_wp2_with fail
      refine (setOf_any _ _ _ _ H3.out (by omega) (by omega) (by omega)).mono ?_; rintro e w6 ⟨t, p2, rfl, t0, t1, hp2, hr2, hg2⟩
      replace HB := Lib.hid (below_grown HB.out hg2)
      go_wp2_with fail
      go_ret3
      exact ⟨n, s, t, rfl, n0, n1, s0, s1, t0, t1, HB.out⟩

theorem twins_comm (n a b : Nat) : twins n b a = twins n a b := by
  unfold twins
  rw [Bool.beq_comm]
  congr 1
  exact decide_eq_decide.2 ⟨Eq.symm, Eq.symm⟩

set_option maxRecDepth 20000 in
set_option maxHeartbeats 1000000 in
theorem FnAreTwins_walk (x : Option Addr) (len cap : Nat) (w : World) (h : Code w x len cap) :
    Calls Try.prog 9 #[.slice x len cap] w fun e w' => e = .returned (.bool true) ∧ Below w.heap.size w w' := by
  by_cases hl : 1048576 < len
  · go_enter Try.func9, Try.ntmps9
    go_wp2_with fail
    go_ret
    exact ⟨rfl, Below.refl _ _⟩
  · go_enter Try.func9, Try.ntmps9
    go_wp2_with fail
    refine (drawAreTwins _ _ _ _ h).mono ?_; rintro e w1 ⟨n, a, b, rfl, n0, n1, a0, a1, b0, b1, hb⟩
    have HB := Lib.hid hb
    clear hb h hl
    by_cases hv : Tic.Valid n a ∧ Tic.Valid n b
    · obtain ⟨hva, hvb⟩ := hv
      have hN := hva.1
      have hN2 := hva.2.1
      have hs := hva.lt_pow
      obtain ⟨N, rfl⟩ := Int.eq_ofNat_of_zero_le (show 0 ≤ n by omega)
      obtain ⟨S, rfl⟩ := Int.eq_ofNat_of_zero_le hva.2.2.1
      obtain ⟨T, rfl⟩ := Int.eq_ofNat_of_zero_le hvb.2.2.1
      rw [Int.toNat_natCast, Int.toNat_natCast] at hs
      have ht : Tic.Turn (1 : Int) := ⟨by omega, by omega⟩
      have hv1 := Tic.valid_shf hva 1
      have hv2 := Tic.valid_tur hva 1
      rw [Int.toNat_natCast, Int.toNat_natCast] at hv1 hv2
      have E1 : Hid (twins N T S = twins N S T) := twins_comm N S T
      have E2 : Hid (twins N (Tic.shf N 1 S) T = twins N S T) := by
        show _ = _
        unfold twins
        rw [Tic.prm_shf (by omega) hs, Tic.gaps_shf (by omega) (by omega)]
      have E3 : Hid (twins N S (Tic.tur N 1 S) = false) := by
        show _ = _
        unfold twins
        rw [Tic.prm_tur (by omega) hs]
        simp
      have E4 : Hid (twins N S T = true → Tic.gapsOf N T = Tic.gapsOf N S) := by
        intro e
        unfold twins at e
        simp at e
        exact e.1.symm
      clear hs
      go_wp2_with fail
      refine (iAreTwins_yes _ _ _ _ hva hvb).mono ?_; rintro e w2 ⟨rfl, hb⟩; rw [Int.toNat_natCast, Int.toNat_natCast, Int.toNat_natCast]
      replace HB := Lib.hid (HB.out.trans (hb.mono HB.out.size))
      clear hb
      go_wp2_with fail
      refine (sAreTwins_yes _ _ _ _ hva hvb).mono ?_; rintro e w2 ⟨rfl, hb⟩; rw [Int.toNat_natCast, Int.toNat_natCast, Int.toNat_natCast]
      replace HB := Lib.hid (HB.out.trans (hb.mono HB.out.size))
      clear hb
      cases hz : twins N S T
      all_goals
        have HZ := Lib.hid hz
        clear hz
        go_wp2_with fail
        refine (implValid_yes _ _ _ hva).mono ?_; rintro e w2 ⟨rfl, rfl⟩
        go_wp2_with fail
        refine (implValid_yes _ _ _ hvb).mono ?_; rintro e w2 ⟨rfl, rfl⟩
        go_wp2_with fail
        refine (iAreTwins_yes _ _ _ _ hvb hva).mono ?_; rintro e w2 ⟨rfl, hb⟩; rw [Int.toNat_natCast, Int.toNat_natCast, Int.toNat_natCast, E1.out, HZ.out]
        replace HB := Lib.hid (HB.out.trans (hb.mono HB.out.size))
        clear hb
        go_wp2_with fail
        refine (iShiftSet_yes _ _ _ _ hva ht).mono ?_; rintro e w2 ⟨rfl, hb⟩; rw [Int.toNat_natCast, Int.toNat_natCast]
        replace HB := Lib.hid (HB.out.trans (hb.mono HB.out.size))
        clear hb
        go_wp2_with fail
        refine (iAreTwins_yes _ _ _ _ hv1 hvb).mono ?_; rintro e w2 ⟨rfl, hb⟩; rw [Int.toNat_natCast, Int.toNat_natCast, Int.toNat_natCast, E2.out, HZ.out]
        replace HB := Lib.hid (HB.out.trans (hb.mono HB.out.size))
        clear hb
        go_wp2_with fail
        refine (iTurnSet_yes _ _ _ _ hva ht).mono ?_; rintro e w2 ⟨rfl, hb⟩; rw [Int.toNat_natCast, Int.toNat_natCast]
        replace HB := Lib.hid (HB.out.trans (hb.mono HB.out.size))
        clear hb
        go_wp2_with fail
        refine (iAreTwins_yes _ _ _ _ hva hv2).mono ?_; rintro e w2 ⟨rfl, hb⟩; rw [Int.toNat_natCast, Int.toNat_natCast, Int.toNat_natCast, E3.out]
        replace HB := Lib.hid (HB.out.trans (hb.mono HB.out.size))
        clear hb
        go_wp2_with fail
      · go_ret
        exact ⟨rfl, HB.out⟩
      · refine (iGapsOf_yes _ _ _ hva).mono ?_; rintro e w2 ⟨v1, rfl, hr, hb⟩
        rw [Int.toNat_natCast, Int.toNat_natCast] at hr
        have R1 := Lib.hid hr
        clear hr
        replace HB := Lib.hid (HB.out.trans (hb.mono HB.out.size))
        clear hb
        go_wp2_with fail
        refine (iGapsOf_yes _ _ _ hvb).mono ?_; rintro e w2 ⟨v2, rfl, hr, hb⟩
        rw [Int.toNat_natCast, Int.toNat_natCast, E4.out HZ.out] at hr
        have R2 := Lib.hid hr
        replace R1 := Lib.hid (R1.out.kept hb)
        clear hr
        replace HB := Lib.hid (HB.out.trans (hb.mono HB.out.size))
        clear hb
        go_wp2_with fail
        refine (equalInts_yes _ _ _ _ _ _ R1.out R2.out).mono ?_; rintro e w2 ⟨rfl, hb⟩
        replace HB := Lib.hid (HB.out.trans (hb.mono HB.out.size))
        clear hb
        go_wp2_with fail
        go_ret
        exact ⟨rfl, HB.out⟩
    · go_wp2_with fail
      refine (iAreTwins_no _ _ _ _ hv).mono ?_; rintro e w2 ⟨rfl, rfl⟩
      go_wp2_with fail
      refine (sAreTwins_no _ _ _ _ hv).mono ?_; rintro e w2 ⟨rfl, rfl⟩
      by_cases hva : Tic.Valid n a
      · have hvb : ¬ Tic.Valid n b := fun hb => hv ⟨hva, hb⟩
        go_wp2_with fail
        refine (implValid_yes _ _ _ hva).mono ?_; rintro e w2 ⟨rfl, rfl⟩
        go_wp2_with fail
        refine (implValid_no _ _ _ hvb).mono ?_; rintro e w2 ⟨rfl, rfl⟩
        go_wp2_with fail
        refine (sAreTwins_no _ _ _ _ hv).mono ?_; rintro e w2 ⟨rfl, rfl⟩
        go_wp2_with fail
        go_ret
        exact ⟨rfl, HB.out⟩
      · go_wp2_with fail
        refine (implValid_no _ _ _ hva).mono ?_; rintro e w2 ⟨rfl, rfl⟩
        go_wp2_with fail
        refine (sAreTwins_no _ _ _ _ hv).mono ?_; rintro e w2 ⟨rfl, rfl⟩
        go_wp2_with fail
        go_ret
        exact ⟨rfl, HB.out⟩
end Go.Proofs.Ytjppinifaiebdaa
