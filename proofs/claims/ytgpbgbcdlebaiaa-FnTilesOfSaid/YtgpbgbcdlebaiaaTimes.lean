/-
  Contracts of the program's times, of the model's sums, and of SumsOf of both.
-/
import Derived.Test.YtgpbgbcdlebaiaaArr
import Derived.Test.YtgpbgbcdlebaiaaShift
namespace Go.Proofs.Ytgpbgbcdlebaiaa
open Go.RowKit
set_option linter.unusedVariables false

/-- the set of the numbers below k at which C is more than 0 -/
def stOf (C : Nat → Nat) : Nat → Nat
  | 0 => 0
  | k + 1 => if 0 < C k then stOf C k ||| 2 ^ k else stOf C k
theorem stOf_yes {C : Nat → Nat} {k : Nat} (h : 0 < C k) : stOf C (k + 1) = stOf C k ||| 2 ^ k := by conv => lhs; unfold stOf; rw [if_pos h]
theorem stOf_no {C : Nat → Nat} {k : Nat} (h : ¬ 0 < C k) : stOf C (k + 1) = stOf C k := by conv => lhs; unfold stOf; rw [if_neg h]
theorem stOf_bit (C : Nat → Nat) (t : Nat) : ∀ k, (stOf C k).testBit t = (decide (t < k) && decide (0 < C t))
  | 0 => by simp [stOf]
  | k + 1 => by
    have ih := stOf_bit C t k
    by_cases h : 0 < C k
    · rw [stOf_yes h, Nat.testBit_or, ih, Nat.testBit_two_pow]
      by_cases e : k = t
      · subst e; simp [h]
      · have : decide (t < k + 1) = decide (t < k) := decide_eq_decide.2 (by omega)
        rw [this]; simp [e]
    · rw [stOf_no h, ih]
      by_cases e : k = t
      · subst e; simp [h]
      · have : decide (t < k + 1) = decide (t < k) := decide_eq_decide.2 (by omega)
        rw [this]
theorem stOf_lt (C : Nat → Nat) : ∀ k, stOf C k < 2 ^ k
  | 0 => by simp [stOf]
  | k + 1 => by
    have ih := stOf_lt C k
    have h2 : 2 ^ (k + 1) = 2 * 2 ^ k := by rw [Nat.pow_succ]; omega
    unfold stOf
    split
    · exact Nat.or_lt_two_pow (by omega) (by omega)
    · omega
theorem stOf_stop {C : Nat → Nat} {n : Nat} (h : ∀ t, n ≤ t → C t = 0) : ∀ {k}, n ≤ k → stOf C k = stOf C n
  | 0, hk => by obtain rfl : n = 0 := by omega
                rfl
  | k + 1, hk => by
    by_cases e : n = k + 1
    · subst e; rfl
    · rw [stOf_no (by rw [h k (by omega)]; omega), stOf_stop h (by omega)]
/-- the times of the voices are their sums -/
theorem stOf_cn {n : Nat} (h : 0 < n) (hn : n ≤ 12) (a b : Nat) : stOf (fun t => Tic.cn n a b t n) 12 = Tic.un n a b n := by
  rw [stOf_stop (n := n) (fun t ht => Tic.cn_big h a b t n ht) hn]
  apply Nat.eq_of_testBit_eq
  intro t
  rw [stOf_bit, Tic.un_bit]
  by_cases ht : t < n
  · simp [ht]
  · rw [Tic.cn_big h a b t n (by omega)]; simp

set_option maxRecDepth 20000 in
theorem index_arr (C : Nat → Nat) : ∀ (k : Nat) (hk : k < 12) (w : World), (Instr.index 53 (.agg (cellsOf C)) (.int .i64 (k : Int))).run Try.prog w = .ok (.int .i64 (C k : Int)) w
  | 0, _, w => by kernel_rfl
  | 1, _, w => by kernel_rfl
  | 2, _, w => by kernel_rfl
  | 3, _, w => by kernel_rfl
  | 4, _, w => by kernel_rfl
  | 5, _, w => by kernel_rfl
  | 6, _, w => by kernel_rfl
  | 7, _, w => by kernel_rfl
  | 8, _, w => by kernel_rfl
  | 9, _, w => by kernel_rfl
  | 10, _, w => by kernel_rfl
  | 11, _, w => by kernel_rfl
  | k + 12, h, w => by omega
set_option maxRecDepth 20000 in
set_option maxHeartbeats 400000 in
theorem times_any (C : Nat → Nat) (N : Nat) (w : World) (hn1 : 3 ≤ N) (hn2 : N ≤ 12) (hC : ∀ t, C t ≤ 144) (hz : ∀ t, N ≤ t → C t = 0) :
    Calls Try.prog 61 #[.agg (cellsOf C), .int .i64 N] w fun e w' => e = .returned (.agg #[.int .i64 N, .int .i64 (stOf C 12 : Int)]) ∧ Below w.heap.size w w' := by
  have hia := index_arr C
  go_enter Try.func61, Try.ntmps61
  go_wp2_with (refine wpList_load_row rfl 53 _ rfl w.heap.size rfl 53 (cellsOf C) (0, 0) _ ((heap_alloc_old _ _ (by simp; omega)).trans (heap_alloc2_old _ _ _)) Try.underlying53 rfl (by rw [cellsOf_size]; exact info_beats) ?_)
  go_loopw [6, 7, 11] (fun t6 t7 t11 wr => ∃ k : Nat, k ≤ 12 ∧ t11 = .int .i64 k ∧
      wr.cell? ⟨w.heap.size + 1, 0, none⟩ = some (.int .i64 0) ∧ wr.cell? ⟨w.heap.size + 1, 1, none⟩ = some (.int .i64 0) ∧
      wr.frozen? ⟨w.heap.size + 1, 0, none⟩ = false ∧ wr.frozen? ⟨w.heap.size + 1, 1, none⟩ = false ∧
      wr.cell? ⟨w.heap.size + 1 + 1, 0, none⟩ = some (.int .i64 N) ∧ wr.cell? ⟨w.heap.size + 1 + 1, 1, none⟩ = some (.int .i64 (stOf C k : Int)) ∧
      wr.frozen? ⟨w.heap.size + 1 + 1, 1, none⟩ = false ∧ wr.frozen? ⟨w.heap.size + 1 + 1, 0, none⟩ = false ∧
      w.heap.size + 1 + 1 < wr.heap.size ∧ Below w.heap.size w wr) (fun _ _ t11 _ => 12 - (intOf t11).toNat)
  case atStart =>
    refine ⟨0, Nat.zero_le _, rfl, ?_, ?_, ?_, ?_, ?_, ?_, ?_, ?_, ?_, ?_⟩
    all_goals first | exact (((Below.refl _ _).alloc (Nat.le_refl _) _).alloc (by simp) _).alloc (by simp; omega) _ | go_simp
    rfl
  case round =>
    obtain ⟨k, hk, rfl, r0, r1, q0, q1, b0, b1, p1, p2, hz2, hbel⟩ := hrel
    have hsl := stOf_lt C k
    have hp12 : 2 ^ k ≤ 2 ^ 12 := Nat.pow_le_pow_right (by omega) hk
    by_cases hlt2 : k < 12
    · have hck := hC k
      by_cases hpos : 0 < C k
      · have hkN : k < N := by
          rcases Nat.lt_or_ge k N with h | h
          · exact h
          · have := hz k h; omega
        have HY := Lib.hid (stOf_yes hpos)
        have hik := hia k hlt2
        have hmk : ((k : Int) % (N : Int)).toNat = k := by rw [Int.emod_eq_of_lt (by omega) (by omega)]; rfl
        have HM := Lib.hid hmk
        have HIA := Lib.hid hia
        clear hmk hia
        generalize C k = ck at hck hpos hik
        go_wp2_with fail
        refine (with_any _ _ _ _ (by omega) (by omega) (by omega) (by omega) (by omega) (by omega)).mono ?_; rintro e w2 ⟨rfl, hb2⟩
        rw [Int.toNat_natCast, HM.out, ← HY.out]
        obtain ⟨hc2, hf2⟩ := bcell hb2
        have t0 := (hc2 _ 0 (by omega)).trans r0
        have t1 := (hc2 _ 1 (by omega)).trans r1
        have u0 := (hf2 _ 0 (by omega)).trans q0
        have u1 := (hf2 _ 1 (by omega)).trans q1
        have v0 := (hc2 _ 0 (by omega)).trans b0
        have v1 := (hc2 _ 1 (by omega)).trans b1
        have v2 := (hf2 _ 1 (by omega)).trans p1
        have v3 := (hf2 _ 0 (by omega)).trans p2
        have hz3 := hb2.size
        have hbel2 := hbel.trans (hb2.mono (by omega))
        clear hc2 hf2 r0 r1 q0 q1 b0 b1 p1 p2 hb2 hbel
        go_wp2
        obtain ⟨y0, y1⟩ := pair_back (x := .int .i64 N) (y := .int .i64 (stOf C (k + 1) : Int)) v0 v1
        go_roundw
        case rel =>
          refine ⟨k + 1, by omega, by go_num, ?_, ?_, ?_, ?_, y0, y1, ?_, ?_, ?_, ?_⟩
          all_goals try simp only [World.frozen?_setCell]
          all_goals first | assumption | (rw [World.cell?_setCell_other _ _ _ _ (by simp), World.cell?_setCell_other _ _ _ _ (by simp)]; assumption) | exact (hbel2.setCell (by simp; omega) _).setCell (by simp; omega) _ | (simp; omega)
        case measure => simp [intOf]; omega
      · have HY := Lib.hid (stOf_no hpos)
        have hik := hia k hlt2
        have HIA := Lib.hid hia
        clear hia
        generalize C k = ck at hck hpos hik
        go_wp2
        go_roundw
        case rel => exact ⟨k + 1, by omega, by go_num, r0, r1, q0, q1, b0, by rw [HY.out]; exact b1, p1, p2, hz2, hbel⟩
        case measure => simp [intOf]; omega
    · obtain rfl : k = 12 := by omega
      go_wp2
      refine bodyPost_ret (v := .agg #[.int .i64 N, .int .i64 (stOf C 12 : Int)]) ?_ rfl ⟨rfl, ?_⟩
      · have e1 := World.cell?_setCell_same wr ⟨w.heap.size + 1, 0, none⟩ (.int .i64 N) r0
        have e2 : ((wr.setCell ⟨w.heap.size + 1, 0, none⟩ (.int .i64 N)).setCell ⟨w.heap.size + 1, 1, none⟩ (.int .i64 (stOf C 12 : Int))).cell? ⟨w.heap.size + 1, 0, none⟩ = some (.int .i64 N) := by
          rw [World.cell?_setCell_other _ _ _ _ (by simp)]; exact e1
        have e3 : ((wr.setCell ⟨w.heap.size + 1, 0, none⟩ (.int .i64 N)).setCell ⟨w.heap.size + 1, 1, none⟩ (.int .i64 (stOf C 12 : Int))).cell? ⟨w.heap.size + 1, 1, none⟩ = some (.int .i64 (stOf C 12 : Int)) := by
          refine World.cell?_setCell_same _ _ _ (u := .int .i64 0) ?_
          rw [World.cell?_setCell_other _ _ _ _ (by simp)]; exact r1
        simp [results, Try.results61, go_sem, e2, e3]
      · exact (hbel.setCell (by simp) _).setCell (by simp) _
end Go.Proofs.Ytgpbgbcdlebaiaa
