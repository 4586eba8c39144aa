/-
  Contracts of shifts and turns of sets: the program's own methods and the model's loops; both are the image of a set under a map of tones.
-/
import Derived.Test.YtmofhhffkppelaaLow
import Derived.Below
import Derived.StillTailTactics
import Derived.Deep.QuietTactic
import Derived.BigQuiet
namespace Go.Proofs.Ytmofhhffkppelaa
open Go.RowKit
set_option linter.unusedVariables false

theorem bcell {W w1 : World} (hb : Below W.heap.size W w1) : (∀ b o, b < W.heap.size → w1.cell? ⟨b, o, none⟩ = W.cell? ⟨b, o, none⟩) ∧ (∀ b o, b < W.heap.size → w1.frozen? ⟨b, o, none⟩ = W.frozen? ⟨b, o, none⟩) :=
  ⟨fun b o h => hb.cell (p := ⟨b, o, none⟩) h, fun b o h => hb.frozen (p := ⟨b, o, none⟩) h⟩

theorem has_any (n s x : Int) (w : World) (h0 : 0 ≤ s) (hs : s < 4096) (hx : 0 ≤ x) (hx2 : x ≤ 12) :
    Calls Try.prog 63 #[.agg #[.int .i64 n, .int .i64 s], .int .i64 x] w fun e w' => e = .returned (.bool (s.toNat.testBit x.toNat)) ∧ Below w.heap.size w w' := by
  obtain ⟨S, rfl⟩ := Int.eq_ofNat_of_zero_le h0
  have HB := Lib.hid (has_bits S x.toNat (by omega))
  go_enter Try.func63, Try.ntmps63
  go_wp2
  go_ret
  exact ⟨ret_bool HB.out, (Below.refl _ _).alloc (Nat.le_refl _) _⟩

theorem has_yes (n s : Int) (S k : Nat) (w : World) (hs : s = S) (hS : S < 4096) (hk : k ≤ 12) (h : S.testBit k = true) :
    Calls Try.prog 63 #[.agg #[.int .i64 n, .int .i64 s], .int .i64 k] w fun e w' => e = .returned (.bool true) ∧ Below w.heap.size w w' := by
  subst hs
  exact (has_any n S k w (by omega) (by omega) (by omega) (by omega)).mono fun e w' ⟨h1, h2⟩ => ⟨h1.trans (ret_bool h), h2⟩
theorem has_no (n s : Int) (S k : Nat) (w : World) (hs : s = S) (hS : S < 4096) (hk : k ≤ 12) (h : S.testBit k = false) :
    Calls Try.prog 63 #[.agg #[.int .i64 n, .int .i64 s], .int .i64 k] w fun e w' => e = .returned (.bool false) ∧ Below w.heap.size w w' := by
  subst hs
  exact (has_any n S k w (by omega) (by omega) (by omega) (by omega)).mono fun e w' ⟨h1, h2⟩ => ⟨h1.trans (ret_bool h), h2⟩

theorem way_bd {way : Int} {k : Nat} (h1 : -1 ≤ way) (h2 : way ≤ 1) (hk : k ≤ 12) : -12 ≤ way * k := by
  rcases (show way = -1 ∨ way = 0 ∨ way = 1 by omega) with rfl | rfl | rfl <;> omega
theorem way_bd2 {way : Int} {k : Nat} (h1 : -1 ≤ way) (h2 : way ≤ 1) (hk : k ≤ 12) : way * k ≤ 12 := by
  rcases (show way = -1 ∨ way = 0 ∨ way = 1 by omega) with rfl | rfl | rfl <;> omega
theorem or_pow {S k : Nat} (hS : S < 4096) (hk : k ≤ 12) : bits .or .i64 (S : Int) (wrap64 ((2 : Int) ^ k)) = ((S ||| 2 ^ k : Nat) : Int) := by
  rw [wrap_pow (by omega)]
  have : 2 ^ k ≤ 2 ^ 12 := Nat.pow_le_pow_right (by omega) hk
  exact i64_or_nat _ _ (by omega) (by omega)
theorem still_of {P : Program} {f : Nat} {args : Array Value} {w : World} {v : Value} (h : Calls P f args w fun e w' => e = .returned v ∧ w = w') : Calls P f args w fun e w' => e = .returned v ∧ w' = w :=
  h.mono fun _ _ ⟨a, b⟩ => ⟨a, b.symm⟩

/-- a world in which a new pair of cells is written -/
theorem pair_back {w : World} {b : Nat} {x y u v : Value} (r0 : w.cell? ⟨b, 0, none⟩ = some u) (r1 : w.cell? ⟨b, 1, none⟩ = some v) :
    ((w.setCell ⟨b, 0, none⟩ x).setCell ⟨b, 1, none⟩ y).cell? ⟨b, 0, none⟩ = some x ∧ ((w.setCell ⟨b, 0, none⟩ x).setCell ⟨b, 1, none⟩ y).cell? ⟨b, 1, none⟩ = some y := by
  constructor
  · rw [World.cell?_setCell_other _ _ _ _ (by simp)]; exact World.cell?_setCell_same _ _ _ r0
  · refine World.cell?_setCell_same _ _ _ (u := v) ?_
    rw [World.cell?_setCell_other _ _ _ _ (by simp)]; exact r1
theorem emod_bd (x n : Int) (h : 1 ≤ n) : 0 ≤ x % n ∧ x % n < n := ⟨Int.emod_nonneg x (by omega), Int.emod_lt_of_pos x (by omega)⟩
set_option maxRecDepth 20000 in
theorem with_any (n s x : Int) (w : World) (g1 : 1 ≤ n) (g2 : n ≤ 12) (g3 : 0 ≤ s) (g4 : s < 4096) (h1 : -1000 ≤ x) (h2 : x ≤ 1000) :
    Calls Try.prog 68 #[.agg #[.int .i64 n, .int .i64 s], .int .i64 x] w fun e w' => e = .returned (.agg #[.int .i64 n, .int .i64 ((s.toNat ||| 2 ^ (x % n).toNat : Nat) : Int)]) ∧ Below w.heap.size w w' := by
  obtain ⟨S, rfl⟩ := Int.eq_ofNat_of_zero_le g3
  rw [Int.toNat_natCast]
  obtain ⟨m1, m2⟩ := emod_bd x n g1
  have HW := Lib.hid (or_pow (S := S) (k := (x % n).toNat) (by omega) (by omega))
  go_enter Try.func68, Try.ntmps68
  go_wp2
  have c0 : ((w.alloc (.cells #[.int .i64 n, .int .i64 S] 42)).alloc (.cells #[.int .i64 0, .int .i64 0] 42)).cell? ⟨w.heap.size, 0, none⟩ = some (.int .i64 n) := by go_simp
  have c1 : ((w.alloc (.cells #[.int .i64 n, .int .i64 S] 42)).alloc (.cells #[.int .i64 0, .int .i64 0] 42)).cell? ⟨w.heap.size, 1, none⟩ = some (.int .i64 S) := by go_simp
  have c2 : ((w.alloc (.cells #[.int .i64 n, .int .i64 S] 42)).alloc (.cells #[.int .i64 0, .int .i64 0] 42)).frozen? ⟨w.heap.size, 1, none⟩ = false := by go_simp
  have r0 : ((w.alloc (.cells #[.int .i64 n, .int .i64 S] 42)).alloc (.cells #[.int .i64 0, .int .i64 0] 42)).cell? ⟨w.heap.size + 1, 0, none⟩ = some (.int .i64 0) := by go_simp
  have r1 : ((w.alloc (.cells #[.int .i64 n, .int .i64 S] 42)).alloc (.cells #[.int .i64 0, .int .i64 0] 42)).cell? ⟨w.heap.size + 1, 1, none⟩ = some (.int .i64 0) := by go_simp
  have q0 : ((w.alloc (.cells #[.int .i64 n, .int .i64 S] 42)).alloc (.cells #[.int .i64 0, .int .i64 0] 42)).frozen? ⟨w.heap.size + 1, 0, none⟩ = false := by go_simp
  have q1 : ((w.alloc (.cells #[.int .i64 n, .int .i64 S] 42)).alloc (.cells #[.int .i64 0, .int .i64 0] 42)).frozen? ⟨w.heap.size + 1, 1, none⟩ = false := by go_simp
  have hbel : Below w.heap.size w ((w.alloc (.cells #[.int .i64 n, .int .i64 S] 42)).alloc (.cells #[.int .i64 0, .int .i64 0] 42)) := ((Below.refl _ _).alloc (Nat.le_refl _) _).alloc (by simp) _
  generalize (w.alloc (.cells #[.int .i64 n, .int .i64 S] 42)).alloc (.cells #[.int .i64 0, .int .i64 0] 42) = W at c0 c1 c2 r0 r1 q0 q1 hbel ⊢
  refine wp_region_still_tail 9 (by kernel_rfl) (by kernel_rfl) ?_
  simp only [List.take_succ_cons, List.take_zero, List.drop_succ_cons, List.drop_zero]
  still_step
  still_step
  still_step
  still_step
  still_step
  still_call (still_of (roundCircle_any _ _ _ (by omega) (by omega) (by omega) (by omega)))
  still_step
  still_step
  still_step
  refine wpStill_nil ?_
  change wpList _ _ _ _ _ W.drew
  go_wp2
  rw [HW.out]
  obtain ⟨e1, e2⟩ := pair_back (w := W.setCell ⟨w.heap.size, 1, none⟩ (.int .i64 ((S ||| 2 ^ (x % n).toNat : Nat) : Int))) (x := .int .i64 n) (y := .int .i64 ((S ||| 2 ^ (x % n).toNat : Nat) : Int)) ((World.cell?_setCell_other _ _ _ _ (by simp)).trans r0) ((World.cell?_setCell_other _ _ _ _ (by simp)).trans r1)
  refine bodyPost_ret (v := .agg #[.int .i64 n, .int .i64 ((S ||| 2 ^ (x % n).toNat : Nat) : Int)]) (by simp [results, Try.results68, go_sem, e1, e2]) rfl ⟨rfl, ?_⟩
  exact (((hbel.setCell (by simp) _).setCell (by simp) _).setCell (by simp) _).drew
set_option maxRecDepth 20000 in
theorem moved_any (n s way t : Int) (w : World) (hv : Tic.Valid n s) (h1 : -1 ≤ way) (h2 : way ≤ 1) (h3 : -50 ≤ t) (h4 : t ≤ 50) :
    Calls Try.prog 57 #[.agg #[.int .i64 n, .int .i64 s], .int .i64 way, .int .i64 t] w fun e w' => e = .returned (.agg #[.int .i64 n, .int .i64 (Tic.img (Tic.mvd n.toNat way t) s.toNat n.toNat : Int)]) ∧ Below w.heap.size w w' := by
  have hlt := hv.lt
  obtain ⟨g1, g2, g3, _⟩ := hv
  obtain ⟨N, rfl⟩ := Int.eq_ofNat_of_zero_le (show 0 ≤ n by omega)
  obtain ⟨S, rfl⟩ := Int.eq_ofNat_of_zero_le g3
  rw [Int.toNat_natCast, Int.toNat_natCast]
  go_enter Try.func57, Try.ntmps57
  go_wp2
  go_loopw [8, 14] (fun t8 t14 wr => ∃ k : Nat, k ≤ N ∧ t14 = .int .i64 k ∧
      wr.cell? ⟨w.heap.size, 0, none⟩ = some (.int .i64 N) ∧ wr.cell? ⟨w.heap.size, 1, none⟩ = some (.int .i64 S) ∧
      wr.cell? ⟨w.heap.size + 1, 0, none⟩ = some (.int .i64 0) ∧ wr.cell? ⟨w.heap.size + 1, 1, none⟩ = some (.int .i64 0) ∧
      wr.frozen? ⟨w.heap.size + 1, 0, none⟩ = false ∧ wr.frozen? ⟨w.heap.size + 1, 1, none⟩ = false ∧
      wr.cell? ⟨w.heap.size + 1 + 1, 0, none⟩ = some (.int .i64 N) ∧ wr.cell? ⟨w.heap.size + 1 + 1, 1, none⟩ = some (.int .i64 (Tic.img (Tic.mvd N way t) S k : Int)) ∧
      wr.frozen? ⟨w.heap.size + 1 + 1, 1, none⟩ = false ∧ wr.frozen? ⟨w.heap.size + 1 + 1, 0, none⟩ = false ∧
      w.heap.size + 1 + 1 < wr.heap.size ∧ Below w.heap.size w wr) (fun _ t14 _ => N - (intOf t14).toNat)
  case atStart =>
    refine ⟨0, Nat.zero_le _, rfl, ?_, ?_, ?_, ?_, ?_, ?_, ?_, ?_, ?_, ?_, ?_, ?_⟩
    all_goals first | exact (((Below.refl _ _).alloc (Nat.le_refl _) _).alloc (by simp) _).alloc (by simp; omega) _ | go_simp
    rfl
  case round =>
    obtain ⟨k, hk, rfl, a0, a1, r0, r1, q0, q1, b0, b1, p1, p2, hz, hbel⟩ := hrel
    by_cases hlt2 : k < N
    · cases hbit : S.testBit k with
      | false =>
        have HB := Lib.hid hbit
        clear hbit
        go_wp2_with fail
        refine (has_no _ _ S k _ rfl (by omega) (by omega) HB.out).mono ?_; rintro e w1 ⟨rfl, hb1⟩
        obtain ⟨hc, hf⟩ := bcell hb1
        have hz1 := hb1.size
        go_wp2
        go_roundw
        case rel =>
          refine ⟨k + 1, by omega, by go_num, ?_, ?_, ?_, ?_, ?_, ?_, ?_, ?_, ?_, ?_, ?_, ?_⟩
          all_goals first | (rw [hc _ _ (by omega)]; assumption) | (rw [hf _ _ (by omega)]; assumption) | omega | exact hbel.trans (hb1.mono (by omega)) | (rw [hc _ _ (by omega), Tic.img_no _ HB.out]; assumption)
        case measure => simp [intOf]; omega
      | true =>
        have HB := Lib.hid hbit
        clear hbit
        go_wp2_with fail
        refine (has_yes _ _ S k _ rfl (by omega) (by omega) HB.out).mono ?_; rintro e w1 ⟨rfl, hb1⟩
        obtain ⟨hc, hf⟩ := bcell hb1
        have hz1 := hb1.size
        go_wp2_with fail
        have d0 : w1.cell? ⟨w.heap.size, 0, none⟩ = some (.int .i64 N) := by rw [hc _ _ (by omega)]; exact a0
        have d1 : w1.cell? ⟨w.heap.size, 1, none⟩ = some (.int .i64 S) := by rw [hc _ _ (by omega)]; exact a1
        have e0 : w1.cell? ⟨w.heap.size + 1, 0, none⟩ = some (.int .i64 0) := by rw [hc _ _ (by omega)]; exact r0
        have e1 : w1.cell? ⟨w.heap.size + 1, 1, none⟩ = some (.int .i64 0) := by rw [hc _ _ (by omega)]; exact r1
        have g0 : w1.frozen? ⟨w.heap.size + 1, 0, none⟩ = false := by rw [hf _ _ (by omega)]; exact q0
        have g1 : w1.frozen? ⟨w.heap.size + 1, 1, none⟩ = false := by rw [hf _ _ (by omega)]; exact q1
        have l0 : w1.cell? ⟨w.heap.size + 1 + 1, 0, none⟩ = some (.int .i64 N) := by rw [hc _ _ (by omega)]; exact b0
        have l1 : w1.cell? ⟨w.heap.size + 1 + 1, 1, none⟩ = some (.int .i64 (Tic.img (Tic.mvd N way t) S k : Int)) := by rw [hc _ _ (by omega)]; exact b1
        have l2 : w1.frozen? ⟨w.heap.size + 1 + 1, 1, none⟩ = false := by rw [hf _ _ (by omega)]; exact p1
        have l3 : w1.frozen? ⟨w.heap.size + 1 + 1, 0, none⟩ = false := by rw [hf _ _ (by omega)]; exact p2
        have hbel1 : Below w.heap.size w w1 := hbel.trans (hb1.mono (by omega))
        have hz2 : w.heap.size + 1 + 1 < w1.heap.size := by omega
        clear hc hf hz1 hb1 a0 a1 r0 r1 q0 q1 b0 b1 p1 p2 hz hbel
        have hw1 := way_bd (k := k) h1 h2 (by omega)
        have hw2 := way_bd2 (k := k) h1 h2 (by omega)
        have hs1 := IntWalk.wrap64_in (way * k) (by omega)
        have hs2 := IntWalk.wrap64_in (t + way * k) (by omega)
        have hi1 : Tic.img (Tic.mvd N way t) S k < 4096 := by have := Tic.img_lt (Tic.mvd N way t) S 12 k (fun x _ => by have := Tic.mvd_lt (n := N) (by omega) way t x; omega); omega
        rw [hs1, hs2]
        clear hs1 hs2
        refine (with_any _ _ _ _ (by omega) (by omega) (by omega) (by omega) (by omega) (by omega)).mono ?_; rintro e w2 ⟨rfl, hb2⟩
        rw [Int.toNat_natCast, show Tic.img (Tic.mvd N way t) S k ||| 2 ^ ((t + way * k) % (N : Int)).toNat = Tic.img (Tic.mvd N way t) S (k + 1) from (Tic.img_yes _ HB.out).symm]
        obtain ⟨hc2, hf2⟩ := bcell hb2
        have s0 := (hc2 _ 0 (by omega)).trans d0
        have s1 := (hc2 _ 1 (by omega)).trans d1
        have t0 := (hc2 _ 0 (by omega)).trans e0
        have t1 := (hc2 _ 1 (by omega)).trans e1
        have u0 := (hf2 _ 0 (by omega)).trans g0
        have u1 := (hf2 _ 1 (by omega)).trans g1
        have v0 := (hc2 _ 0 (by omega)).trans l0
        have v1 := (hc2 _ 1 (by omega)).trans l1
        have v2 := (hf2 _ 1 (by omega)).trans l2
        have v3 := (hf2 _ 0 (by omega)).trans l3
        have hz3 := hb2.size
        have hbel2 := hbel1.trans (hb2.mono (by omega))
        clear hc2 hf2 d0 d1 e0 e1 g0 g1 l0 l1 l2 l3 hb2 hbel1
        go_wp2
        obtain ⟨y0, y1⟩ := pair_back (x := .int .i64 N) (y := .int .i64 (Tic.img (Tic.mvd N way t) S (k + 1) : Int)) v0 v1
        go_roundw
        case rel =>
          refine ⟨k + 1, by omega, by go_num, ?_, ?_, ?_, ?_, ?_, ?_, y0, y1, ?_, ?_, ?_, ?_⟩
          all_goals try simp only [World.frozen?_setCell]
          all_goals first | assumption | (rw [World.cell?_setCell_other _ _ _ _ (by simp), World.cell?_setCell_other _ _ _ _ (by simp)]; assumption) | exact (hbel2.setCell (by simp; omega) _).setCell (by simp; omega) _ | (simp; omega)
        case measure => simp [intOf]; omega
    · have : k = N := by omega
      subst this
      go_wp2
      refine bodyPost_ret (v := .agg #[.int .i64 k, .int .i64 (Tic.img (Tic.mvd k way t) S k : Int)]) ?_ rfl ⟨rfl, ?_⟩
      · have e1 := World.cell?_setCell_same wr ⟨w.heap.size + 1, 0, none⟩ (.int .i64 k) r0
        have e2 : ((wr.setCell ⟨w.heap.size + 1, 0, none⟩ (.int .i64 k)).setCell ⟨w.heap.size + 1, 1, none⟩ (.int .i64 (Tic.img (Tic.mvd k way t) S k : Int))).cell? ⟨w.heap.size + 1, 0, none⟩ = some (.int .i64 k) := by
          rw [World.cell?_setCell_other _ _ _ _ (by simp)]; exact e1
        have e3 : ((wr.setCell ⟨w.heap.size + 1, 0, none⟩ (.int .i64 k)).setCell ⟨w.heap.size + 1, 1, none⟩ (.int .i64 (Tic.img (Tic.mvd k way t) S k : Int))).cell? ⟨w.heap.size + 1, 1, none⟩ = some (.int .i64 (Tic.img (Tic.mvd k way t) S k : Int)) := by
          refine World.cell?_setCell_same _ _ _ (u := .int .i64 0) ?_
          rw [World.cell?_setCell_other _ _ _ _ (by simp)]; exact r1
        simp [results, Try.results57, go_sem, e2, e3]
      · exact (hbel.setCell (by simp) _).setCell (by simp) _
theorem tones_of (a b : Int) (w : World) : (Instr.field 42 (.agg #[.int .i64 a, .int .i64 b]) 1).run Try.prog w = .ok (.int .i64 b) w := by kernel_rfl
theorem mshift_any (n s t : Int) (w : World) (hv : Tic.Valid n s) (ht : Tic.Turn t) :
    Calls Try.prog 42 #[.agg #[.int .i64 n, .int .i64 s], .int .i64 t] w fun e w' => e = .returned (.agg #[.int .i64 n, .int .i64 (Tic.img (Tic.mvd n.toNat 1 t) s.toNat n.toNat : Int)]) ∧ Below w.heap.size w w' := by
  go_enter Try.func42, Try.ntmps42
  go_wp2_with fail
  refine (moved_any _ _ _ _ _ hv (by omega) (by omega) ht.1 ht.2).mono ?_; rintro e w1 ⟨rfl, hb⟩
  obtain ⟨hc, hf⟩ := bcell hb
  have r0 : w1.cell? ⟨w.heap.size + 1, 0, none⟩ = some (.int .i64 0) := by rw [hc _ _ (by simp)]; go_simp
  have r1 : w1.cell? ⟨w.heap.size + 1, 1, none⟩ = some (.int .i64 0) := by rw [hc _ _ (by simp)]; go_simp
  have q0 : w1.frozen? ⟨w.heap.size + 1, 0, none⟩ = false := by rw [hf _ _ (by simp)]; go_simp
  have q1 : w1.frozen? ⟨w.heap.size + 1, 1, none⟩ = false := by rw [hf _ _ (by simp)]; go_simp
  clear hc hf
  go_wp2_with fail
  obtain ⟨e1, e2⟩ := pair_back (x := .int .i64 n) (y := .int .i64 (Tic.img (Tic.mvd n.toNat 1 t) s.toNat n.toNat : Int)) r0 r1
  refine bodyPost_ret (v := .agg #[.int .i64 n, .int .i64 (Tic.img (Tic.mvd n.toNat 1 t) s.toNat n.toNat : Int)]) (by simp [results, Try.results42, go_sem, e1, e2]) rfl ⟨rfl, ?_⟩
  exact (((((Below.refl _ _).alloc (Nat.le_refl _) _).alloc (by simp) _).trans (hb.mono (by simp; omega))).setCell (by simp) _).setCell (by simp) _
theorem mturn_any (n s t : Int) (w : World) (hv : Tic.Valid n s) (ht : Tic.Turn t) :
    Calls Try.prog 52 #[.agg #[.int .i64 n, .int .i64 s], .int .i64 t] w fun e w' => e = .returned (.agg #[.int .i64 n, .int .i64 (Tic.img (Tic.mvd n.toNat (-1) t) s.toNat n.toNat : Int)]) ∧ Below w.heap.size w w' := by
  go_enter Try.func52, Try.ntmps52
  go_wp2_with fail
  refine (moved_any _ _ _ _ _ hv (by omega) (by omega) ht.1 ht.2).mono ?_; rintro e w1 ⟨rfl, hb⟩
  obtain ⟨hc, hf⟩ := bcell hb
  have r0 : w1.cell? ⟨w.heap.size + 1, 0, none⟩ = some (.int .i64 0) := by rw [hc _ _ (by simp)]; go_simp
  have r1 : w1.cell? ⟨w.heap.size + 1, 1, none⟩ = some (.int .i64 0) := by rw [hc _ _ (by simp)]; go_simp
  have q0 : w1.frozen? ⟨w.heap.size + 1, 0, none⟩ = false := by rw [hf _ _ (by simp)]; go_simp
  have q1 : w1.frozen? ⟨w.heap.size + 1, 1, none⟩ = false := by rw [hf _ _ (by simp)]; go_simp
  clear hc hf
  go_wp2_with fail
  obtain ⟨e1, e2⟩ := pair_back (x := .int .i64 n) (y := .int .i64 (Tic.img (Tic.mvd n.toNat (-1) t) s.toNat n.toNat : Int)) r0 r1
  refine bodyPost_ret (v := .agg #[.int .i64 n, .int .i64 (Tic.img (Tic.mvd n.toNat (-1) t) s.toNat n.toNat : Int)]) (by simp [results, Try.results52, go_sem, e1, e2]) rfl ⟨rfl, ?_⟩
  exact (((((Below.refl _ _).alloc (Nat.le_refl _) _).alloc (by simp) _).trans (hb.mono (by simp; omega))).setCell (by simp) _).setCell (by simp) _

end Go.Proofs.Ytmofhhffkppelaa
