/-
  Contract of the program's without: a set with one tone less.
-/
import Derived.Test.YtgpbgbcdlebaiaaSets
import Derived.Test.YtgpbgbcdlebaiaaNearNum
namespace Go.Proofs.Ytgpbgbcdlebaiaa
open Go.RowKit
set_option linter.unusedVariables false

theorem i64_andNot_nat (a b : Nat) (ha : a < 4611686018427387904) (hb : b < 4611686018427387904) : bits .andNot .i64 (a : Int) (b : Int) = ((Tic.nd a b : Nat) : Int) := by
  have hx : Tic.nd a b < 4611686018427387904 := Tic.nd_lt ha
  show IntKind.i64.wrap ((BitVec.ofInt 64 (a : Int) &&& ~~~ BitVec.ofInt 64 (b : Int)).toNat : Int) = _
  have e : (BitVec.ofInt 64 (a : Int) &&& ~~~ BitVec.ofInt 64 (b : Int)).toNat = Tic.nd a b := by
    refine Nat.eq_of_testBit_eq fun i => ?_
    rw [Tic.nd_bit, BitVec.toNat_and, Nat.testBit_and, ofInt_i64 a ha]
    by_cases hi : i < 64
    · have : (~~~ BitVec.ofInt 64 (b : Int)).toNat.testBit i = !b.testBit i := by
        have h1 : (~~~ BitVec.ofInt 64 (b : Int)).getLsbD i = !(BitVec.ofInt 64 (b : Int)).getLsbD i := by rw [BitVec.getLsbD_not]; simp [hi]
        have h2 : (BitVec.ofInt 64 (b : Int)).getLsbD i = b.testBit i := by rw [← BitVec.testBit_toNat, ofInt_i64 b hb]
        rw [BitVec.testBit_toNat, h1, h2]
      rw [this]
    · have : a.testBit i = false := Nat.testBit_lt_two_pow (Nat.lt_of_lt_of_le ha (by
        have : 2 ^ 62 ≤ 2 ^ i := Nat.pow_le_pow_right (by omega) (by omega)
        simpa using this))
      rw [this]; simp
  rw [e]
  exact IntWalk.i64_in _ (by omega)

theorem without_bits {S k : Nat} (hS : S < 4096) (hk : k ≤ 12) : bits .andNot .i64 (S : Int) (wrap64 ((2 : Int) ^ k)) = ((Tic.nd S (2 ^ k) : Nat) : Int) := by
  rw [wrap_pow (by omega)]
  have : 2 ^ k ≤ 2 ^ 12 := Nat.pow_le_pow_right (by omega) hk
  exact i64_andNot_nat _ _ (by omega) (by omega)

set_option maxRecDepth 20000 in
theorem without_any (n : Int) (S k : Nat) (w : World) (hS : S < 4096) (hk : k ≤ 12) :
    Calls Try.prog 96 #[.agg #[.int .i64 n, .int .i64 S], .int .i64 k] w fun e w' => e = .returned (.agg #[.int .i64 n, .int .i64 (Tic.nd S (2 ^ k) : Int)]) ∧ Below w.heap.size w w' := by
  have HW := Lib.hid (without_bits hS hk)
  go_enter Try.func96, Try.ntmps96
  go_wp2
  have c0 : ((w.alloc (.cells #[.int .i64 n, .int .i64 S] 45)).alloc (.cells #[.int .i64 0, .int .i64 0] 45)).cell? ⟨w.heap.size, 0, none⟩ = some (.int .i64 n) := by go_simp
  have c1 : ((w.alloc (.cells #[.int .i64 n, .int .i64 S] 45)).alloc (.cells #[.int .i64 0, .int .i64 0] 45)).cell? ⟨w.heap.size, 1, none⟩ = some (.int .i64 S) := by go_simp
  have c2 : ((w.alloc (.cells #[.int .i64 n, .int .i64 S] 45)).alloc (.cells #[.int .i64 0, .int .i64 0] 45)).frozen? ⟨w.heap.size, 1, none⟩ = false := by go_simp
  have r0 : ((w.alloc (.cells #[.int .i64 n, .int .i64 S] 45)).alloc (.cells #[.int .i64 0, .int .i64 0] 45)).cell? ⟨w.heap.size + 1, 0, none⟩ = some (.int .i64 0) := by go_simp
  have r1 : ((w.alloc (.cells #[.int .i64 n, .int .i64 S] 45)).alloc (.cells #[.int .i64 0, .int .i64 0] 45)).cell? ⟨w.heap.size + 1, 1, none⟩ = some (.int .i64 0) := by go_simp
  have q0 : ((w.alloc (.cells #[.int .i64 n, .int .i64 S] 45)).alloc (.cells #[.int .i64 0, .int .i64 0] 45)).frozen? ⟨w.heap.size + 1, 0, none⟩ = false := by go_simp
  have q1 : ((w.alloc (.cells #[.int .i64 n, .int .i64 S] 45)).alloc (.cells #[.int .i64 0, .int .i64 0] 45)).frozen? ⟨w.heap.size + 1, 1, none⟩ = false := by go_simp
  have hbel : Below w.heap.size w ((w.alloc (.cells #[.int .i64 n, .int .i64 S] 45)).alloc (.cells #[.int .i64 0, .int .i64 0] 45)) := ((Below.refl _ _).alloc (Nat.le_refl _) _).alloc (by simp) _
  generalize (w.alloc (.cells #[.int .i64 n, .int .i64 S] 45)).alloc (.cells #[.int .i64 0, .int .i64 0] 45) = W at c0 c1 c2 r0 r1 q0 q1 hbel ⊢
  refine wp_region_still_tail 6 (by kernel_rfl) (by kernel_rfl) ?_
  simp only [List.take_succ_cons, List.take_zero, List.drop_succ_cons, List.drop_zero]
  still_step
  still_step
  still_step
  still_step
  still_step
  still_step
  refine wpStill_nil ?_
  change wpList _ _ _ _ _ W.drew
  go_wp2
  rw [HW.out]
  obtain ⟨e1, e2⟩ := pair_back (w := W.setCell ⟨w.heap.size, 1, none⟩ (.int .i64 (Tic.nd S (2 ^ k) : Int))) (x := .int .i64 n) (y := .int .i64 (Tic.nd S (2 ^ k) : Int)) ((World.cell?_setCell_other _ _ _ _ (by simp)).trans r0) ((World.cell?_setCell_other _ _ _ _ (by simp)).trans r1)
  refine bodyPost_ret (v := .agg #[.int .i64 n, .int .i64 (Tic.nd S (2 ^ k) : Int)]) (by simp [results, Try.results96, go_sem, e1, e2]) rfl ⟨rfl, ?_⟩
  exact (((hbel.setCell (by simp) _).setCell (by simp) _).setCell (by simp) _).drew
end Go.Proofs.Ytgpbgbcdlebaiaa
