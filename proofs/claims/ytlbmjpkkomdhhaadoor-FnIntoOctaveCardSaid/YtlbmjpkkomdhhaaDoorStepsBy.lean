/-
  Contracts of StepsBy, of the program and of the model.
-/
import Derived.Test.YtlbmjpkkomdhhaaDoorSteps
import Derived.Test.YtlbmjpkkomdhhaaDoorPowIn
namespace Go.Proofs.YtlbmjpkkomdhhaaDoor
open Go.RowKit
set_option linter.unusedVariables false
set_option maxRecDepth 20000

/-- how many steps a ratio has -/
def sby (n a b c : Int) : Int := n * a + (Tic.stp 3 n.toNat : Int) * b + (Tic.stp 5 n.toNat : Int) * c
/-- what StepsBy tells -/
def sbyL (n : Int) (L : List Int) : Int × Bool := match L with
  | [a, b, c] => if 1 ≤ n ∧ n ≤ 12 ∧ Tic.Pws a b c then (sby n a b c, true) else (0, false)
  | _ => (0, false)
theorem sbyL_yes {n a b c : Int} (h1 : 1 ≤ n) (h2 : n ≤ 12) (h : Tic.Pws a b c) : sbyL n [a, b, c] = (sby n a b c, true) := by unfold sbyL; simp only; rw [if_pos ⟨h1, h2, h⟩]
theorem sbyL_no {n : Int} {L : List Int} (h : ¬ (1 ≤ n ∧ n ≤ 12 ∧ PwsL L)) : sbyL n L = (0, false) := by
  unfold sbyL
  match L with
  | [a, b, c] =>
    have hn : ¬ (1 ≤ n ∧ n ≤ 12 ∧ Tic.Pws a b c) := fun hp => h ⟨hp.1, hp.2.1, a, b, c, rfl, hp.2.2⟩
    simp only
    rw [if_neg hn]
  | [] | [_] | [_, _] | _ :: _ :: _ :: _ :: _ => rfl
/-- the parts of that sum, small -/
theorem sby_parts {n a b c : Int} (h1 : 1 ≤ n) (h2 : n ≤ 12) (h : Tic.Pws a b c) : ∃ q1 q2 q3 : Int, n * a = q1 ∧ (Tic.stp 3 n.toNat : Int) * b = q2 ∧ (Tic.stp 5 n.toNat : Int) * c = q3 ∧ -1000 ≤ q1 ∧ q1 ≤ 1000 ∧ -1000 ≤ q2 ∧ q2 ≤ 1000 ∧ -1000 ≤ q3 ∧ q3 ≤ 1000 ∧ sby n a b c = q1 + q2 + q3 := by
  obtain ⟨g1, g2, g3, g4, g5, g6⟩ := h
  have s3 := (Tic.stp_le (p := 3) (n := n.toNat) (.inl rfl) (by omega)).1
  have s5 := (Tic.stp_le (p := 5) (n := n.toNat) (.inr rfl) (by omega)).1
  have b1 := mul_bd (x := n) (y := a) (X := 12) (Y := 24) (by omega) (by omega) (by omega) (by omega)
  have b2 := mul_bd (x := (Tic.stp 3 n.toNat : Int)) (y := b) (X := 28) (Y := 12) (by omega) (by omega) (by omega) (by omega)
  have b3 := mul_bd (x := (Tic.stp 5 n.toNat : Int)) (y := c) (X := 28) (Y := 6) (by omega) (by omega) (by omega) (by omega)
  refine ⟨_, _, _, rfl, rfl, rfl, ?_, ?_, ?_, ?_, ?_, ?_, rfl⟩
  all_goals (generalize n * a = p1 at *; generalize (Tic.stp 3 n.toNat : Int) * b = p2 at *; generalize (Tic.stp 5 n.toNat : Int) * c = p3 at *; omega)

set_option maxHeartbeats 800000 in
theorem sStepsBy_yes (n : Int) (v : Value) (B : Nat) (a b c : Int) (w : World) (hr : Row w B v [a, b, c]) (h1 : 1 ≤ n) (h2 : n ≤ 12) (h : Tic.Pws a b c) :
    Calls Tryd.prog 24 #[.int .i64 n, v] w fun e w' => e = .returned (.tuple #[.int .i64 (sby n a b c), .bool true]) ∧ Below w.heap.size w w' := by
  obtain ⟨q1, q2, q3, e1, e2, e3, i1, i2, i3, i4, i5, i6, hs⟩ := sby_parts h1 h2 h
  have HS := Lib.hid hs
  have HV := Lib.hid (sValidP_yes v B a b c w hr h)
  obtain ⟨g, m, rfl, _, hg, c0, c1, c2⟩ := hr.three
  obtain ⟨N, rfl⟩ := Int.eq_ofNat_of_zero_le (show 0 ≤ n by omega)
  have T3 := Lib.hid (fun w => sstepsFor_any N 3 w (by omega) (by omega) (by omega))
  have T5 := Lib.hid (fun w => sstepsFor_any N 5 w (by omega) (by omega) (by omega))
  rw [Int.toNat_natCast] at e2 e3
  generalize Tic.stp 3 N = s3 at e2 T3
  generalize Tic.stp 5 N = s5 at e3 T5
  have E1 := Lib.hid e1
  have E2 := Lib.hid e2
  have E3 := Lib.hid e3
  have w1 := IntWalk.i64_in q1 (by omega)
  have w2 := IntWalk.i64_in q2 (by omega)
  have w3 := IntWalk.i64_in q3 (by omega)
  clear e1 e2 e3 hs hr h
  go_enter Tryd.func24, Tryd.ntmps24
  go_wp2_with fail
  refine (inRange_yes _ _ _ _ h1 h2).mono ?_; rintro e w' ⟨rfl, rfl⟩
  go_wp2_with fail
  refine HV.out.mono ?_; rintro e w' ⟨rfl, rfl⟩
  go_wp2_with fail
  have e1 := E1.out
  have e2 := E2.out
  have e3 := E3.out
  go_quiet (first | (go_at_call_of 59 (Value.int IntKind.i64 3); exact Calls.quiet_of_same (still_of (T3.out _))) | (go_at_call_of 59 (Value.int IntKind.i64 5); exact Calls.quiet_of_same (still_of (T5.out _))))
  clear e1 e2 e3
  go_wp2
  go_ret2
  exact ⟨by rw [HS.out]; rfl, below_drewN (Below.refl _ _) _⟩
theorem sStepsBy_no (n : Int) (v : Value) (B : Nat) (L : List Int) (w : World) (hr : Row w B v L) (h : ¬ (1 ≤ n ∧ n ≤ 12 ∧ PwsL L)) :
    Calls Tryd.prog 24 #[.int .i64 n, v] w fun e w' => e = .returned (.tuple #[.int .i64 0, .bool false]) ∧ Below w.heap.size w w' := by
  by_cases hn : 1 ≤ n ∧ n ≤ 12
  · have hp : ¬ PwsL L := fun hp => h ⟨hn.1, hn.2, hp⟩
    obtain ⟨h1, h2⟩ := hn
    have HV := Lib.hid (sValidP_no v B L w hr hp)
    clear h hp hr
    go_enter Tryd.func24, Tryd.ntmps24
    go_wp2_with fail
    refine (inRange_yes _ _ _ _ h1 h2).mono ?_; rintro e w' ⟨rfl, rfl⟩
    go_wp2_with fail
    refine HV.out.mono ?_; rintro e w' ⟨rfl, rfl⟩
    go_wp2_with fail
    go_ret2
    exact ⟨rfl, Below.refl _ _⟩
  · have hn2 : n < 1 ∨ 12 < n := by omega
    clear h hn
    go_enter Tryd.func24, Tryd.ntmps24
    go_wp2_with fail
    refine (inRange_no _ _ _ _ hn2).mono ?_; rintro e w' ⟨rfl, rfl⟩
    go_wp2_with fail
    go_ret2
    exact ⟨rfl, Below.refl _ _⟩
theorem sStepsBy_all (n : Int) (v : Value) (B : Nat) (L : List Int) (w : World) (hr : Row w B v L) :
    Calls Tryd.prog 24 #[.int .i64 n, v] w fun e w' => e = .returned (.tuple #[.int .i64 (sbyL n L).1, .bool (sbyL n L).2]) ∧ Below w.heap.size w w' := by
  by_cases h : 1 ≤ n ∧ n ≤ 12 ∧ PwsL L
  · obtain ⟨h1, h2, a, b, c, rfl, hp⟩ := h
    rw [sbyL_yes h1 h2 hp]
    exact sStepsBy_yes n v B a b c w hr h1 h2 hp
  · rw [sbyL_no h]
    exact sStepsBy_no n v B L w hr h
set_option maxHeartbeats 800000 in
theorem iStepsBy_three (n : Int) (v : Value) (B : Nat) (a b c : Int) (w : World) (hl : Limits w) (hr : Row w B v [a, b, c]) :
    Calls Tryd.prog 23 #[.int .i64 n, v] w fun e w' => e = .returned (.tuple #[.int .i64 (if 1 ≤ n ∧ n ≤ 12 ∧ Tic.Pws a b c then sby n a b c else 0), .bool (decide (1 ≤ n ∧ n ≤ 12 ∧ Tic.Pws a b c))]) ∧ Below w.heap.size w w' := by
  have HC := Lib.hid (powersIn_any v B a b c w hl hr)
  clear hr hl
  by_cases hn : 1 ≤ n ∧ n ≤ 12
  · obtain ⟨h1, h2⟩ := hn
    by_cases h : Tic.Pws a b c
    · rw [if_pos ⟨h1, h2, h⟩, decide_eq_true (show 1 ≤ n ∧ n ≤ 12 ∧ Tic.Pws a b c from ⟨h1, h2, h⟩)]
      obtain ⟨q1, q2, q3, e1, e2, e3, i1, i2, i3, i4, i5, i6, hs⟩ := sby_parts h1 h2 h
      have HS := Lib.hid hs
      rw [decide_eq_true h] at HC
      obtain ⟨N, rfl⟩ := Int.eq_ofNat_of_zero_le (show 0 ≤ n by omega)
      have T3 := Lib.hid (fun w => nearestSteps_any N 3 w (by omega) (by omega) (by omega))
      have T5 := Lib.hid (fun w => nearestSteps_any N 5 w (by omega) (by omega) (by omega))
      rw [Int.toNat_natCast] at e2 e3
      generalize Tic.stp 3 N = s3 at e2 T3
      generalize Tic.stp 5 N = s5 at e3 T5
      have E1 := Lib.hid e1
      have E2 := Lib.hid e2
      have E3 := Lib.hid e3
      have w1 := IntWalk.i64_in q1 (by omega)
      have w2 := IntWalk.i64_in q2 (by omega)
      have w3 := IntWalk.i64_in q3 (by omega)
      clear e1 e2 e3 hs h
      unfold pwV at HC
      go_enter Tryd.func23, Tryd.ntmps23
      go_wp2_with fail
      refine HC.out.mono ?_; rintro e w4 ⟨rfl, hb⟩
      have hB := hb.trans (((Below.refl w4.heap.size w4).alloc (Nat.le_refl _) (.cells #[.int .i64 a, .int .i64 b, .int .i64 c] 52)).mono hb.size)
      obtain ⟨p0, p1, p2, _⟩ := Pw3.new w4 a b c 52
      clear hb
      go_wp2_with fail
      refine (parts_yes _ _ h1 h2).mono ?_; rintro e w' ⟨rfl, rfl⟩
      go_wp2_with fail
      have e1 := E1.out
      have e2 := E2.out
      have e3 := E3.out
      generalize w4.alloc (.cells #[.int .i64 a, .int .i64 b, .int .i64 c] 52) = W at *
      go_quiet (first | (go_at_call_of 58 (Value.int IntKind.i64 3); exact Calls.quiet_of_same (still_of (T3.out _))) | (go_at_call_of 58 (Value.int IntKind.i64 5); exact Calls.quiet_of_same (still_of (T5.out _))))
      clear e1 e2 e3
      go_wp2
      go_ret2
      exact ⟨by rw [HS.out]; rfl, below_drewN hB _⟩
    · rw [if_neg (fun hh => h hh.2.2), decide_eq_false (fun hh => h hh.2.2)]
      rw [decide_eq_false h] at HC
      clear h
      unfold pwV at HC
      go_enter Tryd.func23, Tryd.ntmps23
      go_wp2_with fail
      refine HC.out.mono ?_; rintro e w4 ⟨rfl, hb⟩
      have hB := hb.trans (((Below.refl w4.heap.size w4).alloc (Nat.le_refl _) (.cells #[.int .i64 a, .int .i64 b, .int .i64 c] 52)).mono hb.size)
      clear hb
      go_wp2_with fail
      refine (parts_yes _ _ h1 h2).mono ?_; rintro e w' ⟨rfl, rfl⟩
      go_wp2
      go_ret2
      exact ⟨rfl, hB⟩
  · rw [if_neg (fun hh => hn ⟨hh.1, hh.2.1⟩), decide_eq_false (fun hh => hn ⟨hh.1, hh.2.1⟩)]
    have hn2 : n < 1 ∨ 12 < n := by omega
    generalize decide (Tic.Pws a b c) = ok at HC
    clear hn
    unfold pwV at HC
    go_enter Tryd.func23, Tryd.ntmps23
    go_wp2_with fail
    refine HC.out.mono ?_; rintro e w4 ⟨rfl, hb⟩
    have hB := hb.trans (((Below.refl w4.heap.size w4).alloc (Nat.le_refl _) (.cells #[.int .i64 a, .int .i64 b, .int .i64 c] 52)).mono hb.size)
    clear hb
    go_wp2_with fail
    refine (parts_no _ _ hn2).mono ?_; rintro e w' ⟨rfl, rfl⟩
    go_wp2
    go_ret2
    exact ⟨rfl, hB⟩
theorem iStepsBy_len (n : Int) (v : Value) (B : Nat) (L : List Int) (w : World) (hr : Row w B v L) (h : ¬ L.length = 3) :
    Calls Tryd.prog 23 #[.int .i64 n, v] w fun e w' => e = .returned (.tuple #[.int .i64 0, .bool false]) ∧ Below w.heap.size w w' := by
  have HC := Lib.hid (powersIn_no v B L w hr h)
  unfold pwV at HC
  clear hr h
  have HP := Lib.hid (fun w => parts_any n w)
  generalize decide (1 ≤ n ∧ n ≤ 12) = ok at HP
  cases ok <;>
  · go_enter Tryd.func23, Tryd.ntmps23
    go_wp2_with fail
    refine HC.out.mono ?_; rintro e w4 ⟨rfl, hb⟩
    have hB := hb.trans (((Below.refl w4.heap.size w4).alloc (Nat.le_refl _) (.cells #[.int .i64 0, .int .i64 0, .int .i64 0] 52)).mono hb.size)
    clear hb
    go_wp2_with fail
    refine (HP.out _).mono ?_; rintro e w' ⟨rfl, rfl⟩
    go_wp2
    go_ret2
    exact ⟨rfl, hB⟩
theorem iStepsBy_all (n : Int) (v : Value) (B : Nat) (L : List Int) (w : World) (hl : Limits w) (hr : Row w B v L) :
    Calls Tryd.prog 23 #[.int .i64 n, v] w fun e w' => e = .returned (.tuple #[.int .i64 (sbyL n L).1, .bool (sbyL n L).2]) ∧ Below w.heap.size w w' := by
  by_cases h3 : L.length = 3
  · obtain ⟨a, b, c, rfl⟩ := three_of_len h3
    have := iStepsBy_three n v B a b c w hl hr
    unfold sbyL
    simp only
    by_cases h : 1 ≤ n ∧ n ≤ 12 ∧ Tic.Pws a b c
    · rw [if_pos h, decide_eq_true h] at this; rw [if_pos h]; exact this
    · rw [if_neg h, decide_eq_false h] at this; rw [if_neg h]; exact this
  · rw [sbyL_no (fun ⟨_, _, x, y, z, e, hx⟩ => h3 (by rw [e]; rfl))]
    exact iStepsBy_len n v B L w hr h3
end Go.Proofs.YtlbmjpkkomdhhaaDoor
