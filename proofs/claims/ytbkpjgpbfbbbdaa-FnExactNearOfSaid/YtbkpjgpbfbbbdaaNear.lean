/-
  Contracts of NearOf, of the program and of the model.
-/
import Derived.Test.YtbkpjgpbfbbbdaaSortRow
import Derived.Test.YtbkpjgpbfbbbdaaShift
import Derived.Test.YtbkpjgpbfbbbdaaNearNum
import Derived.Deep.RegionHeld3
import Derived.Deep.AppendLies
namespace Go.Proofs.Ytbkpjgpbfbbbdaa
open Go.RowKit
set_option linter.unusedVariables false

theorem i64_andNot_nat (a b : Nat) (ha : a < 4611686018427387904) (hb : b < 4611686018427387904) : bits .andNot .i64 (a : Int) (b : Int) = ((Tic.nd a b : Nat) : Int) := by
  have hx : Tic.nd a b < 4611686018427387904 := Tic.nd_lt ha
  show IntKind.i64.wrap ((BitVec.ofInt 64 (a : Int) &&& ~~~ BitVec.ofInt 64 (b : Int)).toNat : Int) = _
  have e : (BitVec.ofInt 64 (a : Int) &&& ~~~ BitVec.ofInt 64 (b : Int)).toNat = Tic.nd a b := by
    refine Nat.eq_of_testBit_eq fun i => ?_
    rw [Tic.nd_bit, BitVec.toNat_and, Nat.testBit_and, ofInt_i64 a ha]
    by_cases hi : i < 64
    · have : (~~~ BitVec.ofInt 64 (b : Int)).toNat.testBit i = !b.testBit i := by
        have h1 : (~~~ BitVec.ofInt 64 (b : Int)).getLsbD i = !(BitVec.ofInt 64 (b : Int)).getLsbD i := by rw [BitVec.getLsbD_not]; simp [hi]
        have h2 : (BitVec.ofInt 64 (b : Int)).getLsbD i = b.testBit i := by rw [← BitVec.testBit_toNat, ofInt_i64 b hb]
        rw [BitVec.testBit_toNat, h1, h2]
      rw [this]
    · have : a.testBit i = false := Nat.testBit_lt_two_pow (Nat.lt_of_lt_of_le ha (by
        have : 2 ^ 62 ≤ 2 ^ i := Nat.pow_le_pow_right (by omega) (by omega)
        simpa using this))
      rw [this]; simp
  rw [e]
  exact IntWalk.i64_in _ (by omega)
theorem without_bits {S k : Nat} (hS : S < 4096) (hk : k ≤ 12) : bits .andNot .i64 (S : Int) (wrap64 ((2 : Int) ^ k)) = ((Tic.nd S (2 ^ k) : Nat) : Int) := by
  rw [wrap_pow (by omega)]
  have : 2 ^ k ≤ 2 ^ 12 := Nat.pow_le_pow_right (by omega) hk
  exact i64_andNot_nat _ _ (by omega) (by omega)

set_option maxRecDepth 20000 in
theorem without_any (n : Int) (S k : Nat) (w : World) (hS : S < 4096) (hk : k ≤ 12) :
    Calls Try.prog 75 #[.agg #[.int .i64 n, .int .i64 S], .int .i64 k] w fun e w' => e = .returned (.agg #[.int .i64 n, .int .i64 (Tic.nd S (2 ^ k) : Int)]) ∧ Below w.heap.size w w' := by
  have HW := Lib.hid (without_bits hS hk)
  go_enter Try.func75, Try.ntmps75
  go_wp2
  have c0 : ((w.alloc (.cells #[.int .i64 n, .int .i64 S] 47)).alloc (.cells #[.int .i64 0, .int .i64 0] 47)).cell? ⟨w.heap.size, 0, none⟩ = some (.int .i64 n) := by go_simp
  have c1 : ((w.alloc (.cells #[.int .i64 n, .int .i64 S] 47)).alloc (.cells #[.int .i64 0, .int .i64 0] 47)).cell? ⟨w.heap.size, 1, none⟩ = some (.int .i64 S) := by go_simp
  have c2 : ((w.alloc (.cells #[.int .i64 n, .int .i64 S] 47)).alloc (.cells #[.int .i64 0, .int .i64 0] 47)).frozen? ⟨w.heap.size, 1, none⟩ = false := by go_simp
  have r0 : ((w.alloc (.cells #[.int .i64 n, .int .i64 S] 47)).alloc (.cells #[.int .i64 0, .int .i64 0] 47)).cell? ⟨w.heap.size + 1, 0, none⟩ = some (.int .i64 0) := by go_simp
  have r1 : ((w.alloc (.cells #[.int .i64 n, .int .i64 S] 47)).alloc (.cells #[.int .i64 0, .int .i64 0] 47)).cell? ⟨w.heap.size + 1, 1, none⟩ = some (.int .i64 0) := by go_simp
  have q0 : ((w.alloc (.cells #[.int .i64 n, .int .i64 S] 47)).alloc (.cells #[.int .i64 0, .int .i64 0] 47)).frozen? ⟨w.heap.size + 1, 0, none⟩ = false := by go_simp
  have q1 : ((w.alloc (.cells #[.int .i64 n, .int .i64 S] 47)).alloc (.cells #[.int .i64 0, .int .i64 0] 47)).frozen? ⟨w.heap.size + 1, 1, none⟩ = false := by go_simp
  have hbel : Below w.heap.size w ((w.alloc (.cells #[.int .i64 n, .int .i64 S] 47)).alloc (.cells #[.int .i64 0, .int .i64 0] 47)) := ((Below.refl _ _).alloc (Nat.le_refl _) _).alloc (by simp) _
  generalize (w.alloc (.cells #[.int .i64 n, .int .i64 S] 47)).alloc (.cells #[.int .i64 0, .int .i64 0] 47) = W at c0 c1 c2 r0 r1 q0 q1 hbel ⊢
  refine wp_region_still_tail 6 (by kernel_rfl) (by kernel_rfl) ?_
  simp only [List.take_succ_cons, List.take_zero, List.drop_succ_cons, List.drop_zero]
  still_step
  still_step
  still_step
  still_step
  still_step
  still_step
  refine wpStill_nil ?_
  change wpList _ _ _ _ _ W.drew
  go_wp2
  rw [HW.out]
  obtain ⟨e1, e2⟩ := pair_back (w := W.setCell ⟨w.heap.size, 1, none⟩ (.int .i64 (Tic.nd S (2 ^ k) : Int))) (x := .int .i64 n) (y := .int .i64 (Tic.nd S (2 ^ k) : Int)) ((World.cell?_setCell_other _ _ _ _ (by simp)).trans r0) ((World.cell?_setCell_other _ _ _ _ (by simp)).trans r1)
  refine bodyPost_ret (v := .agg #[.int .i64 n, .int .i64 (Tic.nd S (2 ^ k) : Int)]) (by simp [results, Try.results75, go_sem, e1, e2]) rfl ⟨rfl, ?_⟩
  exact (((hbel.setCell (by simp) _).setCell (by simp) _).setCell (by simp) _).drew

theorem isNear_no1 {n S m : Nat} (h : Tic.wt 12 (Tic.nd S m) ≠ 1) : Tic.isNear n S m = false := decide_eq_false fun q => h q.1
theorem isNear_no2 {n S m : Nat} (h : Tic.wt 12 (Tic.nd m S) ≠ 1) : Tic.isNear n S m = false := decide_eq_false fun q => h q.2.1
theorem isNear_no3 {n S m : Nat} (h1 : Tic.shf n 1 (Tic.nd S m) ≠ Tic.nd m S) (h2 : Tic.shf n 1 (Tic.nd m S) ≠ Tic.nd S m) : Tic.isNear n S m = false := decide_eq_false fun q => q.2.2.elim h1 h2
theorem beq_no {a b : Nat} (h : a ≠ b) : ((a : Int) == (b : Int)) = false := beq_eq_false_iff_ne.2 (fun e => h (Int.ofNat.inj e))

theorem beq_no1 {a : Nat} (h : a ≠ 1) : ((a : Int) == 1) = false := beq_eq_false_iff_ne.2 (fun e => h (by omega))

set_option maxHeartbeats 1000000 in
theorem snear_any (n s : Int) (w : World) (hv : Tic.Valid n s) :
    Calls Try.prog 54 #[.int .i64 n, .int .i64 s] w (Gives (Tic.nearTo n.toNat s.toNat (2 ^ n.toNat)) w) := by
  have hlt := hv.lt
  obtain ⟨g1, g2, g3, g4⟩ := hv
  obtain ⟨N, rfl⟩ := Int.eq_ofNat_of_zero_le (show 0 ≤ n by omega)
  obtain ⟨S, rfl⟩ := Int.eq_ofNat_of_zero_le g3
  rw [Int.toNat_natCast, Int.toNat_natCast]
  rw [Int.toNat_natCast] at g4
  have hp := Tic.pow_le_12 (n := (N : Int)) g2
  rw [Int.toNat_natCast] at hp
  generalize hg : 2 ^ N = p at hp g4
  have HP := Lib.hid hg
  have HV : Hid (∀ x : Nat, x < p → Tic.Valid N x) := fun x hx => ⟨g1, g2, by omega, by rw [Int.toNat_natCast, hg]; omega⟩
  clear hg
  have hSp : S < p := by omega
  go_enter Try.func54, Try.ntmps54
  go_wp2
  go_loopw [5, 6] (fun t5 t6 wr => ∃ m : Nat, m ≤ p ∧ t6 = .int .i64 m ∧ Hid (Row wr w.heap.size t5 (Tic.nearTo N S m)) ∧ Below w.heap.size w wr) (fun _ t6 _ => p - (intOf t6).toNat)
  case atStart => exact ⟨0, Nat.zero_le _, rfl, ⟨World.ownsRow_made w #[] 0 (Nat.le_refl _) (by decide) rfl, Nat.zero_le _⟩, (Below.refl _ _).alloc (Nat.le_refl _) _⟩
  case round =>
    obtain ⟨m, hm, rfl, HR, hbel⟩ := hrel
    have hl := Tic.nearTo_le N S m
    have hsz := hbel.size
    by_cases hlt : m < p
    · have HX := Lib.hid (i64_andNot_nat S m (by omega) (by omega))
      have HY := Lib.hid (i64_andNot_nat m S (by omega) (by omega))
      have hx : Tic.nd S m < p := Tic.nd_lt hSp
      have hy : Tic.nd m S < p := Tic.nd_lt hlt
      by_cases q1 : Tic.wt 12 (Tic.nd S m) = 1
      · by_cases q2 : Tic.wt 12 (Tic.nd m S) = 1
        · have HW1 : Hid (∀ w, Calls Try.prog 65 #[.int .i64 (Tic.nd S m : Int)] w fun e w' => e = .returned (.int .i64 1) ∧ w = w') := fun w => (weight_any _ w (by omega) (by omega)).mono fun e w' ⟨h1, h2⟩ => ⟨h1.trans (ret_int (by rw [Int.toNat_natCast, q1]; rfl)), h2⟩
          have HW2 : Hid (∀ w, Calls Try.prog 65 #[.int .i64 (Tic.nd m S : Int)] w fun e w' => e = .returned (.int .i64 1) ∧ w = w') := fun w => (weight_any _ w (by omega) (by omega)).mono fun e w' ⟨h1, h2⟩ => ⟨h1.trans (ret_int (by rw [Int.toNat_natCast, q2]; rfl)), h2⟩
          have HS1 : Hid (∀ w, Calls Try.prog 60 #[.int .i64 (N : Int), .int .i64 (Tic.nd S m : Int), .int .i64 1] w fun e w' => e = .returned (.int .i64 (Tic.shf N 1 (Tic.nd S m) : Int)) ∧ w = w') := fun w => by
            have := sshift_any N (Tic.nd S m : Int) 1 w (HV.out _ hx) ⟨by omega, by omega⟩
            rwa [Int.toNat_natCast, Int.toNat_natCast] at this
          have HS2 : Hid (∀ w, Calls Try.prog 60 #[.int .i64 (N : Int), .int .i64 (Tic.nd m S : Int), .int .i64 1] w fun e w' => e = .returned (.int .i64 (Tic.shf N 1 (Tic.nd m S) : Int)) ∧ w = w') := fun w => by
            have := sshift_any N (Tic.nd m S : Int) 1 w (HV.out _ hy) ⟨by omega, by omega⟩
            rwa [Int.toNat_natCast, Int.toNat_natCast] at this
          by_cases q3 : Tic.shf N 1 (Tic.nd S m) = Tic.nd m S
          · have HT : Hid (Tic.isNear N S m = true) := Lib.hid (decide_eq_true ⟨q1, q2, .inl q3⟩)
            rw [q3] at HS1
            clear q1 q2 q3
            generalize Tic.nd S m = X at HX HW1 HS1 HS2 hx
            generalize Tic.nd m S = Y at HY HW2 HS1 HS2 hy
            go_wp2_with fail
            refine (power_any _ _ (by omega) (by omega)).mono ?_; rintro e w1 ⟨rfl, rfl⟩; rw [Int.toNat_natCast, HP.out]
            go_wp2_with fail
            rw [HX.out]
            refine (HW1.out _).mono ?_; rintro e w1 ⟨rfl, rfl⟩
            go_wp2_with fail
            rw [HY.out]
            refine (HW2.out _).mono ?_; rintro e w1 ⟨rfl, rfl⟩
            go_wp2_with fail
            refine (HS1.out _).mono ?_; rintro e w1 ⟨rfl, rfl⟩
            go_wp2_with (at_builtin; refine wpList_append_int rfl _ _ rfl w.heap.size _ (Tic.nearTo N S m) rfl (HR.out.alloc _) wr.heap.size 1 m rfl ?c1 ?c2 ?c3 ?_)
            case c1 => go_simp
            case c2 => omega
            case c3 => simp; omega
            intro v' w1 hrow hb1
            have HR1 := Lib.hid hrow
            clear hrow
            go_wp2
            go_roundw
            case rel => exact ⟨m + 1, by omega, by go_num, by rw [Tic.nearTo_yes HT.out]; exact HR1, (hbel.alloc hsz _).trans hb1⟩
            case measure => simp [intOf]; omega
          · by_cases q4 : Tic.shf N 1 (Tic.nd m S) = Tic.nd S m
            · have HT : Hid (Tic.isNear N S m = true) := Lib.hid (decide_eq_true ⟨q1, q2, .inr q4⟩)
              rw [q4] at HS2
              have hne := beq_no q3
              clear q1 q2 q3 q4
              generalize Tic.shf N 1 (Tic.nd S m) = Z at HS1 hne
              generalize Tic.nd S m = X at HX HW1 HS1 HS2 hx
              generalize Tic.nd m S = Y at HY HW2 HS1 HS2 hy hne
              go_wp2_with fail
              refine (power_any _ _ (by omega) (by omega)).mono ?_; rintro e w1 ⟨rfl, rfl⟩; rw [Int.toNat_natCast, HP.out]
              go_wp2_with fail
              rw [HX.out]
              refine (HW1.out _).mono ?_; rintro e w1 ⟨rfl, rfl⟩
              go_wp2_with fail
              rw [HY.out]
              refine (HW2.out _).mono ?_; rintro e w1 ⟨rfl, rfl⟩
              go_wp2_with fail
              refine (HS1.out _).mono ?_; rintro e w1 ⟨rfl, rfl⟩
              go_wp2_with fail
              refine (HS2.out _).mono ?_; rintro e w1 ⟨rfl, rfl⟩
              go_wp2_with (at_builtin; refine wpList_append_int rfl _ _ rfl w.heap.size _ (Tic.nearTo N S m) rfl (HR.out.alloc _) wr.heap.size 1 m rfl ?c1 ?c2 ?c3 ?_)
              case c1 => go_simp
              case c2 => omega
              case c3 => simp; omega
              intro v' w1 hrow hb1
              have HR1 := Lib.hid hrow
              clear hrow
              go_wp2
              go_roundw
              case rel => exact ⟨m + 1, by omega, by go_num, by rw [Tic.nearTo_yes HT.out]; exact HR1, (hbel.alloc hsz _).trans hb1⟩
              case measure => simp [intOf]; omega
            · have HT := Lib.hid (isNear_no3 q3 q4)
              have hne := beq_no q3
              have hne2 := beq_no q4
              clear q1 q2 q3 q4
              generalize Tic.shf N 1 (Tic.nd S m) = Z at HS1 hne
              generalize Tic.shf N 1 (Tic.nd m S) = Z2 at HS2 hne2
              generalize Tic.nd S m = X at HX HW1 HS1 HS2 hx hne2
              generalize Tic.nd m S = Y at HY HW2 HS1 HS2 hy hne
              go_wp2_with fail
              refine (power_any _ _ (by omega) (by omega)).mono ?_; rintro e w1 ⟨rfl, rfl⟩; rw [Int.toNat_natCast, HP.out]
              go_wp2_with fail
              rw [HX.out]
              refine (HW1.out _).mono ?_; rintro e w1 ⟨rfl, rfl⟩
              go_wp2_with fail
              rw [HY.out]
              refine (HW2.out _).mono ?_; rintro e w1 ⟨rfl, rfl⟩
              go_wp2_with fail
              refine (HS1.out _).mono ?_; rintro e w1 ⟨rfl, rfl⟩
              go_wp2_with fail
              refine (HS2.out _).mono ?_; rintro e w1 ⟨rfl, rfl⟩
              go_wp2
              go_roundw
              case rel => exact ⟨m + 1, by omega, by go_num, by rw [Tic.nearTo_no HT.out]; exact HR, hbel⟩
              case measure => simp [intOf]; omega
        · have HT := Lib.hid (isNear_no2 (n := N) q2)
          have HW1 : Hid (∀ w, Calls Try.prog 65 #[.int .i64 (Tic.nd S m : Int)] w fun e w' => e = .returned (.int .i64 1) ∧ w = w') := fun w => (weight_any _ w (by omega) (by omega)).mono fun e w' ⟨h1, h2⟩ => ⟨h1.trans (ret_int (by rw [Int.toNat_natCast, q1]; rfl)), h2⟩
          have HW2 : Hid (∀ w, Calls Try.prog 65 #[.int .i64 (Tic.nd m S : Int)] w fun e w' => e = .returned (.int .i64 (Tic.wt 12 (Tic.nd m S) : Int)) ∧ w = w') := fun w => (weight_any _ w (by omega) (by omega)).mono fun e w' ⟨h1, h2⟩ => ⟨h1.trans (ret_int (by rw [Int.toNat_natCast])), h2⟩
          have hne := beq_no1 q2
          clear q1 q2
          generalize Tic.wt 12 (Tic.nd m S) = Z at HW2 hne
          generalize Tic.nd S m = X at HX HW1 hx
          generalize Tic.nd m S = Y at HY HW2 hy
          go_wp2_with fail
          refine (power_any _ _ (by omega) (by omega)).mono ?_; rintro e w1 ⟨rfl, rfl⟩; rw [Int.toNat_natCast, HP.out]
          go_wp2_with fail
          rw [HX.out]
          refine (HW1.out _).mono ?_; rintro e w1 ⟨rfl, rfl⟩
          go_wp2_with fail
          rw [HY.out]
          refine (HW2.out _).mono ?_; rintro e w1 ⟨rfl, rfl⟩
          go_wp2
          go_roundw
          case rel => exact ⟨m + 1, by omega, by go_num, by rw [Tic.nearTo_no HT.out]; exact HR, hbel⟩
          case measure => simp [intOf]; omega
      · have HT := Lib.hid (isNear_no1 (n := N) q1)
        have HW1 : Hid (∀ w, Calls Try.prog 65 #[.int .i64 (Tic.nd S m : Int)] w fun e w' => e = .returned (.int .i64 (Tic.wt 12 (Tic.nd S m) : Int)) ∧ w = w') := fun w => (weight_any _ w (by omega) (by omega)).mono fun e w' ⟨h1, h2⟩ => ⟨h1.trans (ret_int (by rw [Int.toNat_natCast])), h2⟩
        have hne := beq_no1 q1
        clear q1
        generalize Tic.wt 12 (Tic.nd S m) = Z at HW1 hne
        generalize Tic.nd S m = X at HX HW1 hx
        go_wp2_with fail
        refine (power_any _ _ (by omega) (by omega)).mono ?_; rintro e w1 ⟨rfl, rfl⟩; rw [Int.toNat_natCast, HP.out]
        go_wp2_with fail
        rw [HX.out]
        refine (HW1.out _).mono ?_; rintro e w1 ⟨rfl, rfl⟩
        go_wp2
        go_roundw
        case rel => exact ⟨m + 1, by omega, by go_num, by rw [Tic.nearTo_no HT.out]; exact HR, hbel⟩
        case measure => simp [intOf]; omega
    · have : m = p := by omega
      subst this
      go_wp2_with fail
      refine (power_any _ _ (by omega) (by omega)).mono ?_; rintro e w1 ⟨rfl, rfl⟩; rw [Int.toNat_natCast, HP.out]
      go_wp2_with fail
      go_ret
      exact ⟨_, rfl, HR, hbel⟩

theorem nearL_same (n S a : Nat) : ∀ b, a ≤ b → (tonesTo S a).length = (tonesTo S b).length → Tic.nearL n S b = Tic.nearL n S a
  | 0, h, _ => by rw [Nat.le_zero.1 h]
  | b + 1, h, e => by
    by_cases e2 : a = b + 1
    · rw [e2]
    · have hm := tonesTo_mono S a b (by omega)
      cases hb : S.testBit b with
      | false =>
        rw [tonesTo_no hb] at e
        rw [show Tic.nearL n S (b + 1) = Tic.nearL n S b by conv => lhs; unfold Tic.nearL; rw [if_neg (by simp [hb])]]
        exact nearL_same n S a b (by omega) e
      | true => rw [tonesTo_yes hb] at e; simp at e; omega
theorem nearL_eq {n S a b : Nat} (e : (tonesTo S a).length = (tonesTo S b).length) : Tic.nearL n S b = Tic.nearL n S a := by
  rcases Nat.le_total a b with h | h
  · exact nearL_same n S a b h e
  · exact (nearL_same n S b a h e.symm).symm
/-- the first j of the two that the tone x adds -/
def nearH (n S x : Nat) : Nat → List Int
  | 0 => []
  | 1 => if S.testBit (Tic.dn n x) then [] else [(Tic.mv1 S x (Tic.dn n x) : Int)]
  | _ => Tic.near1 n S x
theorem nearH_le (n S x j : Nat) : (nearH n S x j).length ≤ 2 := by
  match j with
  | 0 => simp [nearH]
  | 1 => simp only [nearH]; split <;> simp
  | j + 2 => exact Tic.near1_le n S x
/-- the tone that is looked at -/
def nextTo (n x j : Nat) : Nat := if j = 0 then Tic.dn n x else Tic.up n x
theorem nearH_yes {n S x j : Nat} (hj : j < 2) (h : S.testBit (nextTo n x j) = true) : nearH n S x (j + 1) = nearH n S x j := by
  obtain rfl | rfl : j = 0 ∨ j = 1 := by omega
  · simp [nextTo] at h; simp [nearH, h]
  · simp [nextTo] at h; simp [nearH, Tic.near1, h]
theorem nearH_no {n S x j : Nat} (hj : j < 2) (h : S.testBit (nextTo n x j) = false) : nearH n S x (j + 1) = nearH n S x j ++ [(Tic.mv1 S x (nextTo n x j) : Int)] := by
  obtain rfl | rfl : j = 0 ∨ j = 1 := by omega
  · simp [nextTo] at h; simp [nearH, h, nextTo]
  · simp [nextTo] at h; simp [nearH, Tic.near1, h, nextTo]
/-- the number that the program turns round -/
def stepTo (x j : Nat) : Int := if j = 0 then (x : Int) - 1 else (x : Int) + 1
theorem stepTo_emod {n x j : Nat} (hx : x < n) : stepTo x j % (n : Int) = (nextTo n x j : Int) := by
  have h0 : 0 ≤ stepTo x j % (n : Int) := Int.emod_nonneg _ (by omega)
  have : (stepTo x j % (n : Int)).toNat = nextTo n x j := by
    unfold stepTo nextTo
    split
    · exact Tic.dn_emod hx
    · exact Tic.up_emod hx
  omega
theorem nextTo_lt {n x j : Nat} (hx : x < n) : nextTo n x j < n := by
  unfold nextTo; split
  · exact Tic.dn_lt hx
  · exact Tic.up_lt hx
theorem nearL_next {n S y : Nat} (h : S.testBit y = true) : Tic.nearL n S (y + 1) = Tic.nearL n S y ++ nearH n S y 2 := by
  conv => lhs; unfold Tic.nearL; rw [if_pos h]
  rfl

theorem grow0n {a b d : World} (h : Below a.heap.size a b) (k : Below b.heap.size b d) : Below a.heap.size a d := h.trans (k.mono h.size)
theorem grow1n {a b d : World} (h : Below a.heap.size a b) (k : Below b.drew.heap.size b.drew d) : Below a.heap.size a d := h.drew.trans (k.mono h.size)

set_option maxRecDepth 20000 in
set_option maxHeartbeats 2000000 in
theorem near_any (n s : Int) (w : World) (hv : Tic.Valid n s) :
    Calls Try.prog 52 #[.agg #[.int .i64 n, .int .i64 s]] w (Gives (Tic.nearTo n.toNat s.toNat (2 ^ n.toNat)) w) := by
  have hlt := hv.lt
  have g1 := hv.1
  have g2 := hv.2.1
  obtain ⟨N, rfl⟩ := Int.eq_ofNat_of_zero_le (show 0 ≤ n by omega)
  obtain ⟨S, rfl⟩ := Int.eq_ofNat_of_zero_le hv.2.2.1
  rw [Int.toNat_natCast, Int.toNat_natCast]
  have HSO : Hid (((Tic.nearL N S N).mergeSort fun x y => decide (x ≤ y)) = Tic.nearTo N S (2 ^ N)) := Lib.hid (Tic.near_sorted (n := N) (S := S) (by omega) (by omega) (by have := hv.2.2.2; rw [Int.toNat_natCast] at this; omega))
  go_enter Try.func52, Try.ntmps52
  go_wp2_with fail
  refine (list_any _ _ _ hv).mono ?_; rintro e w1 ⟨v, rfl, hr, hb1⟩
  rw [Int.toNat_natCast, Int.toNat_natCast] at hr
  have a0 : w1.cell? ⟨w.heap.size, 0, none⟩ = some (.int .i64 N) := (hb1.cell (p := ⟨w.heap.size, 0, none⟩) (by simp)).trans (by go_simp)
  have a1 : w1.cell? ⟨w.heap.size, 1, none⟩ = some (.int .i64 S) := (hb1.cell (p := ⟨w.heap.size, 1, none⟩) (by simp)).trans (by go_simp)
  have hz1 := hb1.size
  simp at hz1
  have hbel1 : Below w.heap.size w w1 := ((Below.refl w.heap.size w).alloc (Nat.le_refl _) _).trans (hb1.mono (by simp))
  clear hb1
  rcases hr.cases with ⟨rfl, hT⟩ | ⟨gt, ct, rfl, hgt, hgt2, hct, _⟩
  · have HE : Hid (Tic.nearL N S N = []) := by
      have := nearL_eq (n := N) (S := S) (a := 0) (b := N) (by rw [hT]; rfl)
      rw [show Tic.nearL N S 0 = [] from rfl] at this
      exact this
    rw [HE.out] at HSO
    clear hT hr
    go_wp2
    refine wp_loop_rounds 1 ?_
    rw [rounds_succ]
    go_wp2_with fail
    refine (sort_row _ _ [] _ (Row.nil _ (w.heap.size + 1))).mono ?_; rintro e w2 ⟨rfl, hrow, hg⟩
    rw [HSO.out] at hrow
    have hbel2 := hbel1.grown hg (by omega) (fun j hj => by cases hj)
    go_wp2_with fail
    go_ret
    exact ⟨_, rfl, hrow.mono (by omega), hbel2⟩
  · have HT := Lib.hid hct
    clear hct hr
    generalize hl : (tonesTo S N).length = l at HT
    have HL := Lib.hid hl
    have hl12 : l ≤ 12 := by rw [← hl]; have := tonesTo_le S N; omega
    clear hl
    simp at hgt
    go_wp2
    go_loopw [3, 5, 7, 11] (fun t3 t5 t7 t11 wr => ∃ Y i : Nat, Y ≤ N ∧ i ≤ l ∧ t11 = .int .i64 i ∧ (tonesTo S Y).length = i ∧
      Hid (Row wr (gt + 1) t3 (Tic.nearL N S Y)) ∧
      Hid (∀ i, i < l → wr.cell? ⟨gt, i, none⟩ = some (.int .i64 ((tonesTo S N).getD i 0))) ∧ wr.cell? ⟨w.heap.size, 0, none⟩ = some (.int .i64 N) ∧ wr.cell? ⟨w.heap.size, 1, none⟩ = some (.int .i64 S) ∧ gt < wr.heap.size ∧ Below w.heap.size w wr) (fun _ _ _ t11 _ => l - (intOf t11).toNat)
    case atStart => exact ⟨0, 0, by omega, by omega, rfl, rfl, Row.nil _ _, HT, a0, a1, hgt2, hbel1⟩
    case round =>
      clear HT a0 a1 hbel1 hgt2 hz1
      obtain ⟨Y, i, hY, hi, rfl, hYL, HR, HT, c0, c1, hgs, hbel⟩ := hrel
      have HYL := Lib.hid hYL
      clear hYL
      by_cases hli : i < l
      · obtain ⟨y, hyN, hyb, hyv, hyl⟩ := tonesTo_at S N i (by rw [HL.out]; exact hli)
        have hty := HT.out i hli
        rw [hyv] at hty
        have HYB := Lib.hid hyb
        have HY := Lib.hid hyl
        have HR2 : Hid (Row wr (gt + 1) u3 (Tic.nearL N S y)) := by
          have := HR.out
          rw [← nearL_eq (n := N) (HYL.out.trans HY.out.symm)] at this
          exact this
        have hnl := Tic.nearL_le N S y
        have hsz := hbel.size
        clear hyb hyl hyv HR
        go_wp2
        have s0 : (wr.alloc (.cells #[.int .i64 (y - 1), .int .i64 (y + 1)] 3)).cell? ⟨wr.heap.size, 0, none⟩ = some (.int .i64 (y - 1)) := by go_simp
        have s1 : (wr.alloc (.cells #[.int .i64 (y - 1), .int .i64 (y + 1)] 3)).cell? ⟨wr.heap.size, 1, none⟩ = some (.int .i64 (y + 1)) := by go_simp
        have HSL : Hid (∀ j, j < 2 → (wr.alloc (.cells #[.int .i64 (y - 1), .int .i64 (y + 1)] 3)).cell? ⟨wr.heap.size, j, none⟩ = some (.int .i64 (stepTo y j))) := fun j hj => by
          obtain rfl | rfl : j = 0 ∨ j = 1 := by omega
          · exact s0
          · exact s1
        have hbz : Below wr.heap.size wr (wr.alloc (.cells #[.int .i64 (y - 1), .int .i64 (y + 1)] 3)) := (Below.refl _ _).alloc (Nat.le_refl _) _
        have HR3 := Lib.hid (HR2.out.kept hbz)
        have HO : Hid (u3.ownBlock ≠ some wr.heap.size) := fun e => by have := (HR2.out.lt _ e).2; omega
        have HT3 : Hid (∀ i, i < l → (wr.alloc (.cells #[.int .i64 (y - 1), .int .i64 (y + 1)] 3)).cell? ⟨gt, i, none⟩ = some (.int .i64 ((tonesTo S N).getD i 0))) := fun i hi => (hbz.cell (p := ⟨gt, i, none⟩) hgs).trans (HT.out i hi)
        have d0 := (hbz.cell (p := ⟨w.heap.size, 0, none⟩) (by show w.heap.size < _; omega)).trans c0
        have d1 := (hbz.cell (p := ⟨w.heap.size, 1, none⟩) (by show w.heap.size < _; omega)).trans c1
        have hbelz : Below w.heap.size w (wr.alloc (.cells #[.int .i64 (y - 1), .int .i64 (y + 1)] 3)) := hbel.trans (hbz.mono hbel.size)
        have hzz : wr.heap.size < (wr.alloc (.cells #[.int .i64 (y - 1), .int .i64 (y + 1)] 3)).heap.size := by simp
        clear s0 s1 HR2 HT c0 c1 hbz hty hbel
        generalize hgs0 : wr.heap.size = gs at hgs HSL HO hzz hsz ⊢
        generalize wr.alloc (.cells #[.int .i64 (y - 1), .int .i64 (y + 1)] 3) = wo at HSL HR3 HT3 d0 d1 hbelz hzz ⊢
        clear hgs0
        go_loopw [3, 7, 21] (fun t3 t7 t21 wr => ∃ j : Nat, j ≤ 2 ∧ t21 = .int .i64 j ∧
          Hid (Row wr (gt + 1) t3 (Tic.nearL N S y ++ nearH N S y j)) ∧ Hid (t3.ownBlock ≠ some gs) ∧ Hid (∀ j, j < 2 → wr.cell? ⟨gs, j, none⟩ = some (.int .i64 (stepTo y j))) ∧
          Hid (∀ i, i < l → wr.cell? ⟨gt, i, none⟩ = some (.int .i64 ((tonesTo S N).getD i 0))) ∧ wr.cell? ⟨w.heap.size, 0, none⟩ = some (.int .i64 N) ∧ wr.cell? ⟨w.heap.size, 1, none⟩ = some (.int .i64 S) ∧ gs < wr.heap.size ∧ Below w.heap.size w wr) (fun _ _ t21 _ => 2 - (intOf t21).toNat)
        case atStart => exact ⟨0, by omega, rfl, by rw [show nearH N S y 0 = [] from rfl, List.append_nil]; exact HR3, HO, HSL, HT3, d0, d1, hzz, hbelz⟩
        case round =>
          clear HR3 HO HSL HT3 d0 d1 hzz hbelz
          obtain ⟨j, hj, rfl, HR, HO, HSL, HT, c0, c1, hgz, hbel⟩ := hrel
          by_cases hj2 : j < 2
          · have hsl := HSL.out j hj2
            have hzn := nextTo_lt (n := N) (x := y) (j := j) hyN
            have hzv := stepTo_emod (n := N) (x := y) (j := j) hyN
            have hzb : -1 ≤ stepTo y j ∧ stepTo y j ≤ 13 := by unfold stepTo; split <;> omega
            have hnh := nearH_le N S y j
            have hjj : (j : Int) < 2 := by omega
            have HRC : Hid (∀ w, Calls Try.prog 74 #[.int .i64 (N : Int), .int .i64 (stepTo y j)] w fun e w' => e = .returned (.int .i64 (nextTo N y j : Int)) ∧ w = w') := fun w => by
              have := roundCircle_any N (stepTo y j) w (by omega) (by omega) (by omega) (by omega)
              rwa [hzv] at this
            have HWI : Hid (∀ (x : Nat) w, x < 4096 → Calls Try.prog 76 #[.agg #[.int .i64 (N : Int), .int .i64 (x : Int)], .int .i64 (stepTo y j)] w fun e w' => e = .returned (.agg #[.int .i64 (N : Int), .int .i64 ((x ||| 2 ^ nextTo N y j : Nat) : Int)]) ∧ Below w.heap.size w w') := fun x w hx => by
              have := with_any N x (stepTo y j) w (by omega) (by omega) (by omega) (by omega) (by omega) (by omega)
              rwa [hzv, Int.toNat_natCast, Int.toNat_natCast] at this
            have HWO := Lib.hid (fun w => without_any N S y w (by omega) (by omega))
            have hk0 : Below wr.heap.size wr wr := Below.refl _ _
            have hsz3 := hbel.size
            have hw0 : w.heap.size < wr.heap.size := by omega
            cases hbit : S.testBit (nextTo N y j) with
            | true =>
              have HHA := Lib.hid (fun w => has_yes N S S (nextTo N y j) w rfl (by omega) (by omega) hbit)
              have HNH := Lib.hid (nearH_yes (n := N) hj2 hbit)
              clear hbit hzv
              generalize stepTo y j = z at hsl HRC HWI hzb
              generalize nextTo N y j = d at HRC HWI HHA hzn
              go_wp2_with fail
              go_region_held3 (fun w' => w'.cell? ⟨w.heap.size, 0, none⟩ = some (.int .i64 (N : Int)) ∧ w'.cell? ⟨w.heap.size, 1, none⟩ = some (.int .i64 (S : Int)))
                (first | go_keep | (refine ⟨(hk0.cell ?_).trans ?_, (hk0.cell ?_).trans ?_⟩ <;> assumption))
                (first | (go_at_call 74; refine (HRC.out _).mono ?_; rintro e wx ⟨rfl, rfl⟩) | (go_at_call 72; refine (HHA.out _).mono ?_; rintro e wx ⟨rfl, hb⟩; replace hk0 : Below wr.heap.size wr wx := (by first | exact grow1n hk0 hb | exact grow0n hk0 hb); clear hb))
              have HR1 := Lib.hid (HR.out.kept hk0)
              have HSL1 := Lib.hid (fun j hj => (hk0.cell (p := ⟨gs, j, none⟩) hgz).trans (HSL.out j hj))
              have HT1 := Lib.hid (fun i hi => (hk0.cell (p := ⟨gt, i, none⟩) (by show gt < _; omega)).trans (HT.out i hi))
              have hz4 := hk0.size
              have hbel4 := hbel.trans (hk0.mono hsz3)
              have c0' := (hk0.cell (p := ⟨w.heap.size, 0, none⟩) hw0).trans c0
              have c1' := (hk0.cell (p := ⟨w.heap.size, 1, none⟩) hw0).trans c1
              go_wp2
              go_roundw
              case rel => exact ⟨j + 1, by omega, by go_num, by rw [HNH.out]; exact HR1, HO, HSL1, HT1, c0', c1', by omega, hbel4⟩
              case measure => simp [intOf]; omega
            | false =>
              have HHA := Lib.hid (fun w => has_no N S S (nextTo N y j) w rfl (by omega) (by omega) hbit)
              have HNH := Lib.hid (nearH_no (n := N) hj2 hbit)
              clear hbit hzv
              have hnd : Tic.nd S (2 ^ y) < 4096 := Tic.nd_lt (by omega)
              generalize stepTo y j = z at hsl HRC HWI hzb
              generalize hd : nextTo N y j = d at HRC HWI HHA HNH hzn
              have HMV : Hid (Tic.mv1 S y d = Tic.nd S (2 ^ y) ||| 2 ^ d) := Lib.hid rfl
              generalize Tic.nd S (2 ^ y) = S2 at HWO hnd HMV
              clear hd
              go_wp2_with fail
              go_region_held3 (fun w' => w'.cell? ⟨w.heap.size, 0, none⟩ = some (.int .i64 (N : Int)) ∧ w'.cell? ⟨w.heap.size, 1, none⟩ = some (.int .i64 (S : Int)))
                (first | go_keep | (refine ⟨(hk0.cell ?_).trans ?_, (hk0.cell ?_).trans ?_⟩ <;> assumption))
                (first | (go_at_call 74; refine (HRC.out _).mono ?_; rintro e wx ⟨rfl, rfl⟩) | (go_at_call 72; refine (HHA.out _).mono ?_; rintro e wx ⟨rfl, hb⟩; replace hk0 : Below wr.heap.size wr wx := (by first | exact grow1n hk0 hb | exact grow0n hk0 hb); clear hb))
              have hz4 := hk0.size
              have c0' := (hk0.cell (p := ⟨w.heap.size, 0, none⟩) hw0).trans c0
              have c1' := (hk0.cell (p := ⟨w.heap.size, 1, none⟩) hw0).trans c1
              go_wp2_with fail
              refine (HWO.out _).mono ?_; rintro e w3 ⟨rfl, hb3⟩
              replace hk0 := grow0n hk0 hb3
              clear hb3 c0' c1'
              go_wp2_with fail
              refine (HWI.out _ _ hnd).mono ?_; rintro e w4 ⟨rfl, hb4⟩
              replace hk0 := grow0n hk0 hb4
              have hz5 := hk0.size
              have HR1 := Lib.hid (HR.out.kept hk0)
              have HSL1 := Lib.hid (fun j hj => (hk0.cell (p := ⟨gs, j, none⟩) hgz).trans (HSL.out j hj))
              have HT1 := Lib.hid (fun i hi => (hk0.cell (p := ⟨gt, i, none⟩) (by show gt < _; omega)).trans (HT.out i hi))
              have hbel4 := hbel.trans (hk0.mono hsz3)
              have c0' := (hk0.cell (p := ⟨w.heap.size, 0, none⟩) hw0).trans c0
              have c1' := (hk0.cell (p := ⟨w.heap.size, 1, none⟩) hw0).trans c1
              clear hb4 hk0 HR HSL HT c0 c1 hz4
              have hfl := tones_of (N : Int) ((S2 ||| 2 ^ d : Nat) : Int) w4
              go_wp2_with (at_builtin; refine wpList_append_row rfl _ _ rfl (gt + 1) _ (Tic.nearL N S y ++ nearH N S y j) rfl (HR1.out.alloc _) w4.heap.size 1 ((S2 ||| 2 ^ d : Nat) : Int) rfl ?c1 ?c2 ?c3 ?_)
              case c1 => go_simp
              case c2 => simp; omega
              case c3 => simp; omega
              intro v' w5 hrow hb5 hg5 hv5
              have hbA : Below w4.heap.size w4 (w4.alloc (.cells #[.int .i64 ((S2 ||| 2 ^ d : Nat) : Int)] 3)) := (Below.refl _ _).alloc (Nat.le_refl _) _
              have hzA : (w4.alloc (.cells #[.int .i64 ((S2 ||| 2 ^ d : Nat) : Int)] 3)).heap.size = w4.heap.size + 1 := by simp
              have hz6 := hb5.size
              have HR2 : Hid (Row w5 (gt + 1) v' (Tic.nearL N S y ++ nearH N S y (j + 1))) := by
                show Row _ _ _ _
                rw [HNH.out, HMV.out]; simpa only [List.append_assoc] using hrow
              have HO2 : Hid (v'.ownBlock ≠ some gs) := fun e => by
                rcases hv5 with h | h
                · exact HO.out (h ▸ e)
                · rw [h] at e; injection e with e; omega
              have HSL2 : Hid (∀ j, j < 2 → w5.cell? ⟨gs, j, none⟩ = some (.int .i64 (stepTo y j))) := fun j hj =>
                (hg5.cell_far ⟨gs, j, none⟩ (by rw [hzA]; show gs < _; omega) (fun e => HO.out e.symm)).trans ((hbA.cell (p := ⟨gs, j, none⟩) (by show gs < _; omega)).trans (HSL1.out j hj))
              have hbX : Below (gt + 1) w4 w5 := ((Below.refl (gt + 1) w4).alloc (by omega) _).trans hb5
              have HT2 := Lib.hid (fun i hi => (hbX.cell (p := ⟨gt, i, none⟩) (by show gt < _; omega)).trans (HT1.out i hi))
              have d0 := (hbX.cell (p := ⟨w.heap.size, 0, none⟩) (by show w.heap.size < _; omega)).trans c0'
              have d1 := (hbX.cell (p := ⟨w.heap.size, 1, none⟩) (by show w.heap.size < _; omega)).trans c1'
              have hbel5 := hbel4.trans (hbX.mono (by omega))
              clear hrow hb5 hg5 hv5 hbA hbX HR1 HSL1 HT1 c0' c1' HO
              go_wp2
              go_roundw
              case rel => exact ⟨j + 1, by omega, by go_num, HR2, HO2, HSL2, HT2, d0, d1, by omega, hbel5⟩
              case measure => simp [intOf]; omega
          · obtain rfl : j = 2 := by omega
            have HN2 := Lib.hid (nearL_next (n := N) HYB.out)
            have HLN := Lib.hid (tonesTo_next HYB.out)
            go_wp2
            go_roundw
            case rel => exact ⟨y + 1, i + 1, by omega, by omega, by go_num, by rw [HLN.out, HY.out], by rw [HN2.out]; exact HR, HT, c0, c1, by omega, hbel⟩
            case measure => simp [intOf]; omega
      · obtain rfl : i = l := by omega
        have hsz := hbel.size
        have hLY := Lib.hid (nearL_eq (n := N) (HYL.out.trans HL.out.symm))
        go_wp2_with fail
        refine (sort_row _ _ _ _ HR.out).mono ?_; rintro e w2 ⟨rfl, hrow, hg⟩
        rw [← hLY.out, HSO.out] at hrow
        have HL2 := Lib.hid hrow
        have HB2 := Lib.hid (hbel.grown hg (by omega) (fun j hj => by have := HR.out.own_ge hj; omega))
        clear hrow hg
        go_wp2_with fail
        go_ret
        exact ⟨_, rfl, HL2.out.mono (by omega), HB2.out⟩

theorem iNearOf_yes (n s : Int) (w : World) (hv : Tic.Valid n s) :
    Calls Try.prog 21 #[.int .i64 n, .int .i64 s] w (Gives (Tic.nearTo n.toNat s.toNat (2 ^ n.toNat)) w) := by
  go_enter Try.func21, Try.ntmps21
  go_wp2_with fail
  refine (implValid_yes _ _ _ hv).mono ?_; rintro e w1 ⟨rfl, rfl⟩
  go_wp2_with fail
  refine (near_any _ _ _ hv).mono ?_; rintro e w1 ⟨v, rfl, hr, hb⟩
  go_wp2_with fail
  go_ret
  exact ⟨v, rfl, hr, hb⟩
theorem iNearOf_no (n s : Int) (w : World) (hv : ¬ Tic.Valid n s) :
    Calls Try.prog 21 #[.int .i64 n, .int .i64 s] w (Gives [] w) := by
  go_enter Try.func21, Try.ntmps21
  go_wp2_with fail
  refine (implValid_no _ _ _ hv).mono ?_; rintro e w1 ⟨rfl, rfl⟩
  go_wp2_with fail
  go_ret
  exact ⟨_, rfl, Row.nil _ _, Below.refl _ _⟩
theorem sNearOf_yes (n s : Int) (w : World) (hv : Tic.Valid n s) :
    Calls Try.prog 22 #[.int .i64 n, .int .i64 s] w (Gives (Tic.nearTo n.toNat s.toNat (2 ^ n.toNat)) w) := by
  go_enter Try.func22, Try.ntmps22
  go_wp2_with fail
  refine (validSet_yes _ _ _ hv).mono ?_; rintro e w1 ⟨rfl, rfl⟩
  go_wp2_with fail
  refine (snear_any _ _ _ hv).mono ?_; rintro e w1 ⟨v, rfl, hr, hb⟩
  go_wp2_with fail
  go_ret
  exact ⟨v, rfl, hr, hb⟩
theorem sNearOf_no (n s : Int) (w : World) (hv : ¬ Tic.Valid n s) :
    Calls Try.prog 22 #[.int .i64 n, .int .i64 s] w (Gives [] w) := by
  go_enter Try.func22, Try.ntmps22
  go_wp2_with fail
  refine (validSet_no _ _ _ hv).mono ?_; rintro e w1 ⟨rfl, rfl⟩
  go_wp2_with fail
  go_ret
  exact ⟨_, rfl, Row.nil _ _, Below.refl _ _⟩

end Go.Proofs.Ytbkpjgpbfbbbdaa
