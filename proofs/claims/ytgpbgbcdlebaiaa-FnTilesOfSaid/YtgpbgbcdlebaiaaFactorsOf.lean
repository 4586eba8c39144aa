/-
  Contracts of FactorsOf, of the program and of the model.
-/
import Derived.Test.YtgpbgbcdlebaiaaFactOf
namespace Go.Proofs.Ytgpbgbcdlebaiaa
open Go.RowKit
set_option linter.unusedVariables false

theorem fcond_not {n s k : Nat} (h : n % k ≠ 0) : Tic.fcond n s k = false := by
  unfold Tic.fcond
  rw [beq_eq_false_iff_ne.2 h]; simp
theorem fcond_pw {n s k : Nat} (h : Tic.pw k = false) : Tic.fcond n s k = false := by
  unfold Tic.fcond
  rw [h]; simp
theorem fcond_yes {n s k : Nat} (h1 : 2 ≤ k) (h2 : n % k = 0) (h3 : Tic.pw k = true) : Tic.fcond n s k = Tic.fac n s k (k / Tic.lp k) := by
  unfold Tic.fcond
  rw [h2, h3]; simp [h1]
theorem iFactorsOf_no (n s : Int) (w : World) (hv : ¬ Tic.Valid n s) :
    Calls Try.prog 36 #[.int .i64 n, .int .i64 s] w (Gives [] w) := by
  go_enter Try.func36, Try.ntmps36
  go_wp2_with fail
  refine (implValid_no _ _ _ hv).mono ?_; rintro e w1 ⟨rfl, rfl⟩
  go_wp2_with fail
  go_ret
  exact ⟨_, rfl, Row.nil _ _, Below.refl _ _⟩
set_option maxRecDepth 20000 in
set_option maxHeartbeats 1000000 in
theorem iFactorsOf_yes (n s : Int) (w : World) (hv : Tic.Valid n s) :
    Calls Try.prog 36 #[.int .i64 n, .int .i64 s] w (Gives (Tic.factors n.toNat s.toNat) w) := by
  have hlt := hv.lt
  have g1 := hv.1
  have g2 := hv.2.1
  obtain ⟨N, rfl⟩ := Int.eq_ofNat_of_zero_le (show 0 ≤ n by omega)
  obtain ⟨S, rfl⟩ := Int.eq_ofNat_of_zero_le hv.2.2.1
  simp only [Int.toNat_natCast]
  have HV := Lib.hid hv
  clear hv
  go_enter Try.func36, Try.ntmps36
  go_wp2_with fail
  refine (implValid_yes _ _ _ HV.out).mono ?_; rintro e w1 ⟨rfl, rfl⟩
  go_wp2
  go_loopw [6, 7, 8, 9] (fun t6 t7 t8 t9 wr => ∃ k : Nat, 2 ≤ k ∧ k ≤ N + 1 ∧ t7 = .int .i64 k ∧ Hid (Row wr (w.heap.size + 1) t6 (Tic.flTo N S k)) ∧
      wr.cell? ⟨w.heap.size, 0, none⟩ = some (.int .i64 N) ∧ wr.cell? ⟨w.heap.size, 1, none⟩ = some (.int .i64 S) ∧ w.heap.size < wr.heap.size ∧ Below w.heap.size w wr) (fun _ t7 _ _ _ => N + 1 - (intOf t7).toNat)
  case atStart =>
    refine ⟨2, Nat.le_refl _, by omega, rfl, Lib.hid ?_, ?_, ?_, ?_, ?_⟩
    · rw [Tic.flTo_two]; exact Row.nil _ _
    all_goals first | exact (Below.refl _ _).alloc (Nat.le_refl _) _ | go_simp
  case round =>
    obtain ⟨k, hk1, hk, rfl, HR, c0, c1, hz, hbel⟩ := hrel
    by_cases hlt2 : k ≤ N
    · have HLP := Lib.hid (leastPrime_any (k : Int) wr (by omega) (by omega))
      simp only [Int.toNat_natCast] at HLP
      obtain ⟨l1, l2, l3, l4, l5, l6⟩ := Tic.lp_spec (p := k) (by omega) (by omega)
      by_cases hd : N % k = 0
      · have hdv : k ∣ N := Nat.dvd_of_mod_eq_zero hd
        have hmm : ((N : Int) % (k : Int)) = 0 := by rw [← Int.natCast_emod, hd]; rfl
        have hm2 : ((N : Int) % (k : Int) == 0) = true := by rw [hmm]; rfl
        cases hpw : Tic.pw k with
        | false =>
          have HF := Lib.hid (fcond_pw (n := N) (s := S) hpw)
          have HN := Lib.hid (Tic.flTo_no HF.out)
          rw [hpw] at HLP
          clear hd
          go_wp2_with fail
          refine HLP.out.mono ?_; rintro e w1 ⟨rfl, rfl⟩
          go_wp2
          go_roundw
          case rel => exact ⟨k + 1, by omega, by omega, by go_num, by rw [HN.out]; exact HR, c0, c1, hz, hbel⟩
          case measure => simp [intOf]; omega
        | true =>
          have HF := Lib.hid (fcond_yes (n := N) (s := S) hk1 hd hpw)
          have HHF := Lib.hid (fun w' => hasFactor_any (N : Int) (S : Int) (k : Int) (Tic.lp k : Int) (k / Tic.lp k) w' HV.out (by omega) (by omega) (by simpa using hdv) (by omega) (by simpa using l6))
          simp only [Int.toNat_natCast] at HHF
          rw [hpw] at HLP
          clear hd
          have hfl := Tic.flTo_len N S k
          have hdd : ¬ k = 0 := by omega
          generalize Tic.lp k = q at *
          generalize hfc : Tic.fac N S k (k / q) = fc at HF HHF
          clear hfc l1 l2 l3 l4 l5 l6 hpw
          go_wp2_with fail
          refine HLP.out.mono ?_; rintro e w1 ⟨rfl, rfl⟩
          go_wp2_with fail
          refine (HHF.out _).mono ?_; rintro e w1 ⟨rfl, hb1⟩
          have e0 := (hb1.cell (p := ⟨w.heap.size, 0, none⟩) hz).trans c0
          have e1 := (hb1.cell (p := ⟨w.heap.size, 1, none⟩) hz).trans c1
          have hz1 := hb1.size
          have hbel1 := hbel.trans (hb1.mono (by omega))
          have HR1 := Lib.hid (HR.out.kept hb1)
          clear hb1 HR hbel c0 c1
          cases fc with
          | false =>
            have HN := Lib.hid (Tic.flTo_no HF.out)
            go_wp2
            go_roundw
            case rel => exact ⟨k + 1, by omega, by omega, by go_num, by rw [HN.out]; exact HR1, e0, e1, by omega, hbel1⟩
            case measure => simp [intOf]; omega
          | true =>
            have HN := Lib.hid (Tic.flTo_yes HF.out)
            go_wp2_with (at_builtin; refine wpList_append_int rfl _ _ rfl (w.heap.size + 1) _ (Tic.flTo N S k) rfl (HR1.out.alloc _) w1.heap.size 1 k rfl ?c1 ?c2 ?c3 ?_)
            case c1 => go_simp
            case c2 => omega
            case c3 => simp; omega
            intro v' w2 hrow hb2
            have HR2 := Lib.hid hrow
            have f0 : w2.cell? ⟨w.heap.size, 0, none⟩ = some (.int .i64 N) := (hb2.cell (p := ⟨w.heap.size, 0, none⟩) (by simp)).trans (Lib.cell?_alloc_some _ e0)
            have f1 : w2.cell? ⟨w.heap.size, 1, none⟩ = some (.int .i64 S) := (hb2.cell (p := ⟨w.heap.size, 1, none⟩) (by simp)).trans (Lib.cell?_alloc_some _ e1)
            have hz2 := hb2.size
            simp only [World.size_alloc] at hz2
            have hbel2 : Below w.heap.size w w2 := (hbel1.alloc (by omega) _).trans (hb2.mono (by omega))
            clear hrow hb2 HR1 e0 e1
            go_wp2
            go_roundw
            case rel => exact ⟨k + 1, by omega, by omega, by go_num, by rw [HN.out]; exact HR2, f0, f1, by omega, hbel2⟩
            case measure => simp [intOf]; omega
      · have HF := Lib.hid (fcond_not (s := S) hd)
        have HN := Lib.hid (Tic.flTo_no HF.out)
        have hmm : ((N : Int) % (k : Int) == 0) = false := by rw [beq_eq_false_iff_ne]; omega
        generalize Tic.pw k = bp at HLP
        clear hd
        go_wp2_with fail
        refine HLP.out.mono ?_; rintro e w1 ⟨rfl, rfl⟩
        go_wp2
        go_roundw
        case rel => exact ⟨k + 1, by omega, by omega, by go_num, by rw [HN.out]; exact HR, c0, c1, hz, hbel⟩
        case measure => simp [intOf]; omega
    · obtain rfl : k = N + 1 := by omega
      go_wp2
      go_ret
      exact ⟨_, rfl, HR.out.mono (by omega), hbel⟩
theorem sFactorsOf_no (n s : Int) (w : World) (hv : ¬ Tic.Valid n s) :
    Calls Try.prog 38 #[.int .i64 n, .int .i64 s] w (Gives [] w) := by
  go_enter Try.func38, Try.ntmps38
  go_wp2_with fail
  refine (validSet_no _ _ _ hv).mono ?_; rintro e w1 ⟨rfl, rfl⟩
  go_wp2_with fail
  go_ret
  exact ⟨_, rfl, Row.nil _ _, Below.refl _ _⟩
set_option maxRecDepth 20000 in
set_option maxHeartbeats 1000000 in
theorem sFactorsOf_yes (n s : Int) (w : World) (hv : Tic.Valid n s) :
    Calls Try.prog 38 #[.int .i64 n, .int .i64 s] w (Gives (Tic.factors n.toNat s.toNat) w) := by
  have hlt := hv.lt
  have g1 := hv.1
  have g2 := hv.2.1
  obtain ⟨N, rfl⟩ := Int.eq_ofNat_of_zero_le (show 0 ≤ n by omega)
  obtain ⟨S, rfl⟩ := Int.eq_ofNat_of_zero_le hv.2.2.1
  simp only [Int.toNat_natCast]
  have HV := Lib.hid hv
  clear hv
  go_enter Try.func38, Try.ntmps38
  go_wp2_with fail
  refine (validSet_yes _ _ _ HV.out).mono ?_; rintro e w1 ⟨rfl, rfl⟩
  go_wp2
  go_loopw [5, 6] (fun t5 t6 wr => ∃ k : Nat, 2 ≤ k ∧ k ≤ N + 1 ∧ t6 = .int .i64 k ∧ Hid (Row wr w.heap.size t5 (Tic.flTo N S k)) ∧ Below w.heap.size w wr) (fun _ t6 _ => N + 1 - (intOf t6).toNat)
  case atStart =>
    refine ⟨2, Nat.le_refl _, by omega, rfl, Lib.hid ?_, (Below.refl _ _).alloc (Nat.le_refl _) _⟩
    rw [Tic.flTo_two]; exact ⟨World.ownsRow_made w #[] 0 (Nat.le_refl _) (by decide) rfl, Nat.zero_le _⟩
  case round =>
    obtain ⟨k, hk1, hk, rfl, HR, hbel⟩ := hrel
    have hs := hbel.size
    by_cases hlt2 : k ≤ N
    · have HPO := Lib.hid (fun w' => primeOf_any (k : Int) w' (by omega) (by omega))
      simp only [Int.toNat_natCast] at HPO
      obtain ⟨l1, l2, l3, l4, l5, l6⟩ := Tic.lp_spec (p := k) (by omega) (by omega)
      by_cases hd : N % k = 0
      · have hmm : ((N : Int) % (k : Int)) = 0 := by rw [← Int.natCast_emod, hd]; rfl
        have hm2 : ((N : Int) % (k : Int) == 0) = true := by rw [hmm]; rfl
        cases hpw : Tic.pw k with
        | false =>
          have HF := Lib.hid (fcond_pw (n := N) (s := S) hpw)
          have HN := Lib.hid (Tic.flTo_no HF.out)
          rw [hpw] at HPO
          clear hd
          go_wp2_with fail
          refine (HPO.out _).mono ?_; rintro e w1 ⟨rfl, rfl⟩
          rw [if_neg (by simp)]
          go_wp2
          go_roundw
          case rel => exact ⟨k + 1, by omega, by omega, by go_num, by rw [HN.out]; exact HR, hbel⟩
          case measure => simp [intOf]; omega
        | true =>
          have HF := Lib.hid (fcond_yes (n := N) (s := S) hk1 hd hpw)
          have HHF := Lib.hid (fun w' => divides_any (N : Int) (S : Int) (k : Int) w' HV.out (by omega) (by omega) (by simpa using hpw))
          simp only [Int.toNat_natCast] at HHF
          rw [hpw] at HPO
          have hfl := Tic.flTo_len N S k
          have hdd : ¬ k = 0 := by omega
          have hq0 : (0 : Int) < (Tic.lp k : Int) := by omega
          clear hd
          generalize Tic.lp k = q at *
          generalize hfc : Tic.fac N S k (k / q) = fc at HF HHF
          clear hfc l1 l2 l3 l4 l5 l6 hpw
          go_wp2_with fail
          refine (HPO.out _).mono ?_; rintro e w1 ⟨rfl, rfl⟩
          rw [if_pos trivial]
          go_wp2_with fail
          refine (HHF.out _).mono ?_; rintro e w1 ⟨rfl, hb1⟩
          have hz1 := hb1.size
          have hbel1 := hbel.trans (hb1.mono (by omega))
          have HR1 := Lib.hid (HR.out.kept hb1)
          clear hb1 HR hbel
          cases fc with
          | false =>
            have HN := Lib.hid (Tic.flTo_no HF.out)
            go_wp2
            go_roundw
            case rel => exact ⟨k + 1, by omega, by omega, by go_num, by rw [HN.out]; exact HR1, hbel1⟩
            case measure => simp [intOf]; omega
          | true =>
            have HN := Lib.hid (Tic.flTo_yes HF.out)
            go_wp2_with (at_builtin; refine wpList_append_int rfl _ _ rfl w.heap.size _ (Tic.flTo N S k) rfl (HR1.out.alloc _) w1.heap.size 1 k rfl ?c1 ?c2 ?c3 ?_)
            case c1 => go_simp
            case c2 => omega
            case c3 => simp; omega
            intro v' w2 hrow hb2
            have HR2 := Lib.hid hrow
            have hbel2 : Below w.heap.size w w2 := (hbel1.alloc (by omega) _).trans hb2
            clear hrow hb2 HR1
            go_wp2
            go_roundw
            case rel => exact ⟨k + 1, by omega, by omega, by go_num, by rw [HN.out]; exact HR2, hbel2⟩
            case measure => simp [intOf]; omega
      · have HF := Lib.hid (fcond_not (s := S) hd)
        have HN := Lib.hid (Tic.flTo_no HF.out)
        have hmm : ((N : Int) % (k : Int) == 0) = false := by rw [beq_eq_false_iff_ne]; omega
        have hdd : ¬ k = 0 := by omega
        clear hd HPO
        go_wp2
        go_roundw
        case rel => exact ⟨k + 1, by omega, by omega, by go_num, by rw [HN.out]; exact HR, hbel⟩
        case measure => simp [intOf]; omega
    · obtain rfl : k = N + 1 := by omega
      go_wp2
      go_ret
      exact ⟨_, rfl, HR.out, hbel⟩
end Go.Proofs.Ytgpbgbcdlebaiaa
