/-
  Contracts of the small functions on numbers: powers of 2, bits, weights, rests, ranges, valid circles and shifts.
-/
import Derived.Test.YtmofhhffkppelaaProg
import Derived.Test.YtmofhhffkppelaaMath
import Derived.WalkKit
import Derived.WalkSpells
import Derived.Lib.Hide
namespace Go.Proofs.Ytmofhhffkppelaa
open Go.RowKit
set_option linter.unusedVariables false

theorem ret_int {k : IntKind} {a b : Int} (h : a = b) : Ending.returned (.int k a) = .returned (.int k b) := by rw [h]
theorem ret_bool {a b : Bool} (h : a = b) : Ending.returned (.bool a) = .returned (.bool b) := by rw [h]

theorem power_any (n : Int) (w : World) (h0 : 0 ≤ n) (h1 : n ≤ 61) :
    Calls Try.prog 46 #[.int .i64 n] w fun e w' => e = .returned (.int .i64 ((2 ^ n.toNat : Nat) : Int)) ∧ w = w' := by
  obtain ⟨N, rfl⟩ := Int.eq_ofNat_of_zero_le h0
  rw [Int.toNat_natCast]
  have HN := Lib.hid (Tic.pow_le_62 (k := N) (by omega))
  go_enter Try.func46, Try.ntmps46
  go_wp2
  go_loop [0, 3] (fun t0 t3 => ∃ k P : Nat, k ≤ N ∧ t0 = .int .i64 k ∧ t3 = .int .i64 P ∧ Hid (P * 2 ^ k = 2 ^ N)) (fun t0 _ => (intOf t0).toNat)
  case atStart => exact ⟨N, 1, Nat.le_refl _, rfl, rfl, Nat.one_mul _⟩
  case round =>
    obtain ⟨k, P, hk, rfl, rfl, hP⟩ := hrel
    by_cases hlt : 0 < k
    · have hb : P ≤ 2305843009213693952 := by
        have h2 : 2 ≤ 2 ^ k := by
          have := Nat.pow_le_pow_right (n := 2) (by omega) hlt
          simpa using this
        have h3 := hP.out
        have h4 := HN.out
        have h5 : P * 2 ≤ P * 2 ^ k := Nat.mul_le_mul_left _ h2
        omega
      go_wp2
      go_round
      case rel =>
        refine ⟨k - 1, 2 * P, by omega, ?_, ?_, ?_⟩
        · have : ((k : Int) - 1) = ((k - 1 : Nat) : Int) := by omega
          rw [this]
        · have : (2 * (P : Int)) = ((2 * P : Nat) : Int) := by omega
          rw [this]
        · have h3 := hP.out
          show 2 * P * 2 ^ (k - 1) = 2 ^ N
          rw [← h3]
          obtain ⟨j, rfl⟩ : ∃ j, k = j + 1 := ⟨k - 1, by omega⟩
          simp only [Nat.add_sub_cancel, Nat.pow_succ]
          rw [Nat.mul_comm 2 P, Nat.mul_assoc, Nat.mul_comm 2]
      case measure => simp [intOf]; omega
    · have : k = 0 := by omega
      subst this
      go_wp2
      go_ret
      have h3 := hP.out
      exact ⟨ret_int (congrArg Int.ofNat (by rw [← h3, Nat.pow_zero, Nat.mul_one])), rfl⟩

theorem bit_any (x j : Int) (w : World) (h0 : 0 ≤ x) (hx : x ≤ 1000000) (h1 : 0 ≤ j) (h2 : j ≤ 61) :
    Calls Try.prog 49 #[.int .i64 x, .int .i64 j] w fun e w' => e = .returned (.int .i64 (Tic.bitI x.toNat j.toNat)) ∧ w = w' := by
  obtain ⟨s, rfl⟩ := Int.eq_ofNat_of_zero_le h0
  have hp : 1 ≤ 2 ^ j.toNat := Nat.one_le_two_pow
  have hpl := Tic.pow_le_62 (k := j.toNat) (by omega)
  have HB := Lib.hid (Tic.bitI_eq s j.toNat)
  generalize hg : 2 ^ j.toNat = p at hp hpl
  have HG := Lib.hid hg
  clear hg
  obtain ⟨hq0, hq1⟩ := Tic.div_bd s p
  go_enter Try.func49, Try.ntmps49
  go_wp2_with (go_at_call 46; refine (power_any _ _ h1 h2).mono ?_; rintro e w' ⟨rfl, rfl⟩; rw [HG.out])
  go_ret
  refine ⟨ret_int ?_, rfl⟩
  rw [Int.toNat_natCast, HB.out, HG.out]
  rfl

theorem bit_yes (x j : Int) (S k : Nat) (w : World) (hx : x = S) (hS : S < 4096) (hj : j = k) (hk : k ≤ 12) (h : S.testBit k = true) :
    Calls Try.prog 49 #[.int .i64 x, .int .i64 j] w fun e w' => e = .returned (.int .i64 1) ∧ w = w' := by
  subst hx hj
  exact (bit_any S k w (by omega) (by omega) (by omega) (by omega)).mono fun e w' ⟨h1, h2⟩ => ⟨h1.trans (ret_int (Tic.bitI_true h)), h2⟩
theorem bit_no (x j : Int) (S k : Nat) (w : World) (hx : x = S) (hS : S < 4096) (hj : j = k) (hk : k ≤ 12) (h : S.testBit k = false) :
    Calls Try.prog 49 #[.int .i64 x, .int .i64 j] w fun e w' => e = .returned (.int .i64 0) ∧ w = w' := by
  subst hx hj
  exact (bit_any S k w (by omega) (by omega) (by omega) (by omega)).mono fun e w' ⟨h1, h2⟩ => ⟨h1.trans (ret_int (Tic.bitI_false h)), h2⟩

theorem weight_any (x : Int) (w : World) (h0 : 0 ≤ x) (hx : x < 4096) :
    Calls Try.prog 47 #[.int .i64 x] w fun e w' => e = .returned (.int .i64 (Tic.wt 12 x.toNat : Int)) ∧ w = w' := by
  obtain ⟨s, rfl⟩ := Int.eq_ofNat_of_zero_le h0
  rw [Int.toNat_natCast]
  have hle := Tic.wt_le 12 s
  go_enter Try.func47, Try.ntmps47
  go_wp2
  go_loop [0, 3] (fun t0 t3 => ∃ f r c : Nat, f ≤ 12 ∧ c ≤ 12 ∧ r ≤ 4095 ∧ r < 2 ^ f ∧ t0 = .int .i64 r ∧ t3 = .int .i64 c ∧ Hid (c + Tic.wt f r = Tic.wt 12 s)) (fun t0 _ => (intOf t0).toNat)
  case atStart => exact ⟨12, s, 0, by omega, by omega, by omega, by omega, rfl, rfl, Nat.zero_add _⟩
  case round =>
    obtain ⟨f, r, c, hf, hc, hr', hr, rfl, rfl, hP⟩ := hrel
    by_cases hlt : 0 < r
    · obtain ⟨g, rfl⟩ : ∃ g, f = g + 1 := ⟨f - 1, by
        cases f with
        | zero => simp at hr; omega
        | succ f => omega⟩
      have h3 : c + (r % 2 + Tic.wt g (r / 2)) = Tic.wt 12 s := hP.out
      have hm : c + r % 2 ≤ 12 := by omega
      have H3 := Lib.hid h3
      clear h3
      rw [Nat.pow_succ] at hr
      go_wp2
      go_round
      case rel => exact ⟨g, r / 2, c + r % 2, by omega, by omega, by omega, by omega, by go_num, by go_num, by have := H3.out; show c + r % 2 + Tic.wt g (r / 2) = Tic.wt 12 s; omega⟩
      case measure => simp [intOf]; omega
    · have : r = 0 := by omega
      subst this
      go_wp2
      go_ret
      have h3 := hP.out
      rw [Tic.wt_zero] at h3
      exact ⟨ret_int (by omega), rfl⟩

theorem rest_any (x n : Int) (w : World) (h0 : -1000 ≤ x) (hx : x ≤ 1000) (h1 : 1 ≤ n) (h2 : n ≤ 1000) :
    Calls Try.prog 81 #[.int .i64 x, .int .i64 n] w fun e w' => e = .returned (.int .i64 (x % n)) ∧ w = w' := by
  have H := Lib.hid (Tic.go_round_emod (a := x) (n := n))
  have l1 := Int.lt_tmod_of_pos x (show 0 < n by omega)
  have l2 := Int.tmod_lt_of_pos x (show 0 < n by omega)
  go_enter Try.func81, Try.ntmps81
  go_wp2
  go_ret
  exact ⟨ret_int H.out, rfl⟩

theorem roundCircle_any (n x : Int) (w : World) (h0 : -1000 ≤ x) (hx : x ≤ 1000) (h1 : 1 ≤ n) (h2 : n ≤ 1000) :
    Calls Try.prog 64 #[.int .i64 n, .int .i64 x] w fun e w' => e = .returned (.int .i64 (x % n)) ∧ w = w' := by
  have H := Lib.hid (Tic.go_round_emod (a := x) (n := n))
  have l1 := Int.lt_tmod_of_pos x (show 0 < n by omega)
  have l2 := Int.tmod_lt_of_pos x (show 0 < n by omega)
  go_enter Try.func64, Try.ntmps64
  go_wp2
  go_ret
  exact ⟨ret_int H.out, rfl⟩

theorem inRange_yes (n a b : Int) (w : World) (h1 : a ≤ n) (h2 : n ≤ b) :
    Calls Try.prog 26 #[.int .i64 n, .int .i64 a, .int .i64 b] w fun e w' => e = .returned (.bool true) ∧ w = w' := by
  go_enter Try.func26, Try.ntmps26
  go_wp2
  go_ret
  exact ⟨rfl, rfl⟩
theorem inRange_no (n a b : Int) (w : World) (h : n < a ∨ b < n) :
    Calls Try.prog 26 #[.int .i64 n, .int .i64 a, .int .i64 b] w fun e w' => e = .returned (.bool false) ∧ w = w' := by
  by_cases h1 : n < a
  · go_enter Try.func26, Try.ntmps26
    go_wp2
    go_ret
    exact ⟨rfl, rfl⟩
  · have h2 : b < n := by omega
    clear h
    go_enter Try.func26, Try.ntmps26
    go_wp2
    go_ret
    exact ⟨ret_bool (decide_eq_false (by omega)), rfl⟩

theorem validSet_yes (n s : Int) (w : World) (h : Tic.Valid n s) :
    Calls Try.prog 38 #[.int .i64 n, .int .i64 s] w fun e w' => e = .returned (.bool true) ∧ w = w' := by
  obtain ⟨h1, h2, h3, h4⟩ := h
  have hp := Tic.pow_le_12 h2
  have hp1 : 1 ≤ 2 ^ n.toNat := Nat.one_le_two_pow
  generalize hg : 2 ^ n.toNat = p at h4 hp hp1
  have HG := Lib.hid hg
  clear hg
  go_enter Try.func38, Try.ntmps38
  go_wp2_with fail
  refine (inRange_yes _ _ _ _ h1 h2).mono ?_; rintro e w' ⟨rfl, rfl⟩
  go_wp2_with fail
  refine (power_any _ _ (by omega) (by omega)).mono ?_; rintro e w' ⟨rfl, rfl⟩; rw [HG.out]
  go_wp2_with fail
  refine (inRange_yes _ _ _ _ h3 (by omega)).mono ?_; rintro e w' ⟨rfl, rfl⟩
  go_wp2_with fail
  go_ret
  exact ⟨rfl, rfl⟩
theorem validSet_no (n s : Int) (w : World) (h : ¬ Tic.Valid n s) :
    Calls Try.prog 38 #[.int .i64 n, .int .i64 s] w fun e w' => e = .returned (.bool false) ∧ w = w' := by
  by_cases h1 : n < 3 ∨ 12 < n
  · go_enter Try.func38, Try.ntmps38
    go_wp2_with fail
    refine (inRange_no _ _ _ _ h1).mono ?_; rintro e w' ⟨rfl, rfl⟩
    go_wp2_with fail
    go_ret
    exact ⟨rfl, rfl⟩
  · have h2 : 3 ≤ n ∧ n ≤ 12 := by omega
    obtain ⟨h2, h3⟩ := h2
    have hp := Tic.pow_le_12 h3
    have hp1 : 1 ≤ 2 ^ n.toNat := Nat.one_le_two_pow
    have h4 : s < 0 ∨ ((2 ^ n.toNat : Nat) : Int) ≤ s := by
      unfold Tic.Valid at h
      omega
    clear h h1
    generalize hg : 2 ^ n.toNat = p at h4 hp hp1
    have HG := Lib.hid hg
    have H4 := Lib.hid h4
    clear hg h4
    go_enter Try.func38, Try.ntmps38
    go_wp2_with fail
    refine (inRange_yes _ _ _ _ h2 h3).mono ?_; rintro e w' ⟨rfl, rfl⟩
    go_wp2_with fail
    refine (power_any _ _ (by omega) (by omega)).mono ?_; rintro e w' ⟨rfl, rfl⟩; rw [HG.out]
    go_wp2_with fail
    refine (inRange_no _ _ _ _ (by have := H4.out; omega)).mono ?_; rintro e w' ⟨rfl, rfl⟩
    go_wp2_with fail
    go_ret
    exact ⟨rfl, rfl⟩

theorem circle_yes (n : Int) (w : World) (h1 : 3 ≤ n) (h2 : n ≤ 12) :
    Calls Try.prog 39 #[.int .i64 n] w fun e w' => e = .returned (.bool true) ∧ w = w' := by
  go_enter Try.func39, Try.ntmps39
  go_wp2
  go_ret
  exact ⟨rfl, rfl⟩
theorem circle_no (n : Int) (w : World) (h : n < 3 ∨ 12 < n) :
    Calls Try.prog 39 #[.int .i64 n] w fun e w' => e = .returned (.bool false) ∧ w = w' := by
  by_cases h1 : n < 3
  · clear h
    go_enter Try.func39, Try.ntmps39
    go_wp2
    go_ret
    exact ⟨rfl, rfl⟩
  · have h2 : 12 < n := by omega
    clear h
    go_enter Try.func39, Try.ntmps39
    go_wp2
    go_ret
    exact ⟨ret_bool (decide_eq_false (by omega)), rfl⟩
theorem shiftOk_yes (t : Int) (w : World) (h : Tic.Turn t) :
    Calls Try.prog 40 #[.int .i64 t] w fun e w' => e = .returned (.bool true) ∧ w = w' := by
  obtain ⟨h1, h2⟩ := h
  go_enter Try.func40, Try.ntmps40
  go_wp2
  go_ret
  exact ⟨rfl, rfl⟩
theorem shiftOk_no (t : Int) (w : World) (h : ¬ Tic.Turn t) :
    Calls Try.prog 40 #[.int .i64 t] w fun e w' => e = .returned (.bool false) ∧ w = w' := by
  have h : t < -50 ∨ 50 < t := by unfold Tic.Turn at h; omega
  by_cases h1 : t < -50
  · clear h
    go_enter Try.func40, Try.ntmps40
    go_wp2
    go_ret
    exact ⟨rfl, rfl⟩
  · have h2 : 50 < t := by omega
    clear h
    go_enter Try.func40, Try.ntmps40
    go_wp2
    go_ret
    exact ⟨ret_bool (decide_eq_false (by omega)), rfl⟩

theorem wrap_nat {P : Nat} (h : P ≤ 4611686018427387904) : wrap64 (P : Int) = P := IntWalk.wrap64_in _ (by omega)
theorem wrap_pow {k : Nat} (h : k ≤ 61) : wrap64 ((2 : Int) ^ k) = ((2 ^ k : Nat) : Int) := by
  have e : (2 : Int) ^ k = ((2 ^ k : Nat) : Int) := by rw [Int.natCast_pow]; rfl
  rw [e]
  exact wrap_nat (Tic.pow_le_62 (by omega))

theorem ofInt_i64 (a : Nat) (ha : a < 4611686018427387904) : (BitVec.ofInt 64 (a : Int)).toNat = a := by
  rw [BitVec.ofInt_natCast, BitVec.toNat_ofNat]; exact Nat.mod_eq_of_lt (by omega)
theorem i64_and_nat (a b : Nat) (ha : a < 4611686018427387904) (hb : b < 4611686018427387904) : bits .and .i64 (a : Int) (b : Int) = ((a &&& b : Nat) : Int) := by
  have hx : a &&& b < 2 ^ 62 := Nat.and_lt_two_pow _ (by omega)
  show IntKind.i64.wrap ((BitVec.ofInt 64 (a : Int) &&& BitVec.ofInt 64 (b : Int)).toNat : Int) = _
  rw [BitVec.toNat_and, ofInt_i64 a ha, ofInt_i64 b hb]
  exact IntWalk.i64_in _ (by omega)
theorem i64_or_nat (a b : Nat) (ha : a < 4611686018427387904) (hb : b < 4611686018427387904) : bits .or .i64 (a : Int) (b : Int) = ((a ||| b : Nat) : Int) := by
  have hx : a ||| b < 2 ^ 62 := Nat.or_lt_two_pow (by omega) (by omega)
  show IntKind.i64.wrap ((BitVec.ofInt 64 (a : Int) ||| BitVec.ofInt 64 (b : Int)).toNat : Int) = _
  rw [BitVec.toNat_or, ofInt_i64 a ha, ofInt_i64 b hb]
  exact IntWalk.i64_in _ (by omega)
/-- s >> x & 1 == 1 -/
theorem has_bits (s x : Nat) (hs : s < 4096) : (bits .and .i64 ((s : Int) / (2 : Int) ^ x) 1 == 1) = s.testBit x := by
  have e : (2 : Int) ^ x = ((2 ^ x : Nat) : Int) := by rw [Int.natCast_pow]; rfl
  have hd : s / 2 ^ x < 4611686018427387904 := by have := Nat.div_le_self s (2 ^ x); omega
  rw [e, ← Int.natCast_ediv]
  have := i64_and_nat (s / 2 ^ x) 1 hd (by omega)
  rw [show ((1 : Nat) : Int) = 1 from rfl] at this
  rw [this, Nat.and_one_is_mod, Nat.testBit_eq_decide_div_mod_eq]
  have := Nat.mod_lt (s / 2 ^ x) (y := 2) (by omega)
  by_cases h : s / 2 ^ x % 2 = 1
  · simp [h]
  · have h0 : s / 2 ^ x % 2 = 0 := by omega
    simp [h0]

theorem implValid_yes (n s : Int) (w : World) (h : Tic.Valid n s) :
    Calls Try.prog 19 #[.int .i64 n, .int .i64 s] w fun e w' => e = .returned (.bool true) ∧ w = w' := by
  have h4 := Lib.hid h.2.2.2
  obtain ⟨h1, h2, h3, _⟩ := h
  have HW := Lib.hid (wrap_pow (k := n.toNat) (by omega))
  go_enter Try.func19, Try.ntmps19
  go_wp2_with fail
  refine (circle_yes _ _ h1 h2).mono ?_; rintro e w' ⟨rfl, rfl⟩
  go_wp2_with fail
  go_ret
  exact ⟨ret_bool (by rw [HW.out]; exact decide_eq_true h4.out), rfl⟩
theorem implValid_no (n s : Int) (w : World) (h : ¬ Tic.Valid n s) :
    Calls Try.prog 19 #[.int .i64 n, .int .i64 s] w fun e w' => e = .returned (.bool false) ∧ w = w' := by
  by_cases h1 : n < 3 ∨ 12 < n
  · go_enter Try.func19, Try.ntmps19
    go_wp2_with fail
    refine (circle_no _ _ h1).mono ?_; rintro e w' ⟨rfl, rfl⟩
    go_wp2_with fail
    go_ret
    exact ⟨rfl, rfl⟩
  · have h2 : 3 ≤ n ∧ n ≤ 12 := by omega
    obtain ⟨h2, h3⟩ := h2
    have h4 : s < 0 ∨ ((2 ^ n.toNat : Nat) : Int) ≤ s := by
      unfold Tic.Valid at h
      omega
    clear h h1
    have HW := Lib.hid (wrap_pow (k := n.toNat) (by omega))
    by_cases h5 : s < 0
    · clear h4
      go_enter Try.func19, Try.ntmps19
      go_wp2_with fail
      refine (circle_yes _ _ h2 h3).mono ?_; rintro e w' ⟨rfl, rfl⟩
      go_wp2_with fail
      go_ret
      exact ⟨rfl, rfl⟩
    · have h6 : ((2 ^ n.toNat : Nat) : Int) ≤ s := by omega
      have H6 := Lib.hid h6
      clear h4 h6
      go_enter Try.func19, Try.ntmps19
      go_wp2_with fail
      refine (circle_yes _ _ h2 h3).mono ?_; rintro e w' ⟨rfl, rfl⟩
      go_wp2_with fail
      go_ret
      exact ⟨ret_bool (by rw [HW.out]; exact decide_eq_false (by have := H6.out; omega)), rfl⟩


end Go.Proofs.Ytmofhhffkppelaa
