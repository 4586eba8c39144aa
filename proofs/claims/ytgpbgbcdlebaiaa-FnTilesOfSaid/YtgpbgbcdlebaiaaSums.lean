/-
  Contracts of SumsOf, of the program and of the model.
-/
import Derived.Test.YtgpbgbcdlebaiaaTimes
import Derived.Test.YtgpbgbcdlebaiaaArrEq
import Derived.Test.YtgpbgbcdlebaiaaSetEq
import Derived.Test.YtgpbgbcdlebaiaaOnes
namespace Go.Proofs.Ytgpbgbcdlebaiaa
open Go.RowKit
set_option linter.unusedVariables false

theorem nat_beq (x : Nat) : (((x : Nat) : Int) == 0) = (x == 0) := by
  rw [Bool.eq_iff_iff, beq_iff_eq, beq_iff_eq]; omega
set_option maxRecDepth 20000 in
set_option maxHeartbeats 400000 in
theorem ssums_any (n a b : Int) (w : World) (hv : Tic.Valid n a) (hv2 : Tic.Valid n b) :
    Calls Try.prog 63 #[.int .i64 n, .int .i64 a, .int .i64 b] w fun e w' => e = .returned (.tuple #[.int .i64 (Tic.un n.toNat a.toNat b.toNat n.toNat : Int), .bool (Tic.okk n.toNat a.toNat b.toNat n.toNat)]) ∧ w = w' := by
  have hlt := hv.lt
  have hlt2 := hv2.lt
  have g1 := hv.1
  have g2 := hv.2.1
  obtain ⟨N, rfl⟩ := Int.eq_ofNat_of_zero_le (show 0 ≤ n by omega)
  obtain ⟨A, rfl⟩ := Int.eq_ofNat_of_zero_le hv.2.2.1
  obtain ⟨B, rfl⟩ := Int.eq_ofNat_of_zero_le hv2.2.2.1
  have HV := Lib.hid hv
  simp only [Int.toNat_natCast]
  clear hv hv2
  go_enter Try.func63, Try.ntmps63
  go_wp2
  go_loop [8, 9, 10, 11] (fun t8 t9 t10 t11 => ∃ k : Nat, k ≤ N ∧ t10 = .int .i64 k ∧ t8 = .int .i64 (Tic.un N A B k : Int) ∧ t9 = .bool (Tic.okk N A B k)) (fun _ _ t10 _ => N - (intOf t10).toNat)
  case atStart => exact ⟨0, Nat.zero_le _, rfl, rfl, rfl⟩
  case round =>
    obtain ⟨k, hk, rfl, rfl, rfl⟩ := hrel
    by_cases hlt3 : k < N
    · cases hbit : B.testBit k with
      | false =>
        have HB := Lib.hid hbit
        have HU := Lib.hid (Tic.un_no (n := N) (a := A) hbit)
        have HO := Lib.hid (Tic.okk_no (n := N) (a := A) hbit)
        clear hbit
        go_wp2_with fail
        refine (bit_no _ _ B k _ rfl (by omega) rfl (by omega) HB.out).mono ?_; rintro e w1 ⟨rfl, rfl⟩
        go_wp2
        go_round
        case rel => exact ⟨k + 1, by omega, by go_num, by rw [HU.out], by rw [HO.out]⟩
        case measure => simp [intOf]; omega
      | true =>
        have ht : Tic.Turn (k : Int) := ⟨by omega, by omega⟩
        have HB := Lib.hid hbit
        have HU := Lib.hid (Tic.un_yes (n := N) (a := A) hbit)
        have HO := Lib.hid (Tic.okk_yes (n := N) (a := A) hbit)
        have hul := Tic.un_lt (n := N) (by omega) A B k
        have hsl := Tic.shf_lt12 HV.out (k : Int)
        have hp := Tic.pow_le_12 g2
        simp only [Int.toNat_natCast] at hsl hp
        have HA := Lib.hid (i64_and_nat (Tic.un N A B k) (Tic.shf N k A) (by omega) (by omega))
        have HR := Lib.hid (i64_or_nat (Tic.un N A B k) (Tic.shf N k A) (by omega) (by omega))
        clear hbit
        go_wp2_with fail
        refine (bit_yes _ _ B k _ rfl (by omega) rfl (by omega) HB.out).mono ?_; rintro e w1 ⟨rfl, rfl⟩
        go_wp2_with fail
        refine (sshift_any _ _ _ _ HV.out ht).mono ?_; rintro e w1 ⟨rfl, rfl⟩
        simp only [Int.toNat_natCast]
        generalize Tic.shf N k A = T at *
        generalize Tic.un N A B k = U at *
        generalize Tic.okk N A B k = ok at *
        have hx := HA.out
        have hy := HR.out
        cases ok with
        | false =>
          go_wp2
          go_round
          case rel => exact ⟨k + 1, by omega, by go_num, by rw [HU.out], by rw [HO.out]; rfl⟩
          case measure => simp [intOf]; omega
        | true =>
          go_wp2
          all_goals
            go_round
            case rel => exact ⟨k + 1, by omega, by go_num, by rw [HU.out], by rw [HO.out, Bool.true_and]; exact congrArg Value.bool (nat_beq _)⟩
            case measure => simp [intOf]; omega
    · obtain rfl : k = N := by omega
      go_wp2
      go_ret2
      exact ⟨rfl, rfl⟩
/-- both are sets of the circle -/
def TwoOk (n a b : Int) : Prop := Tic.Valid n a ∧ Tic.Valid n b
theorem sSumsOf_yes (n a b : Int) (w : World) (h : TwoOk n a b) :
    Calls Try.prog 27 #[.int .i64 n, .int .i64 a, .int .i64 b] w fun e w' => e = .returned (.tuple #[.int .i64 (Tic.un n.toNat a.toNat b.toNat n.toNat : Int), .bool (Tic.okk n.toNat a.toNat b.toNat n.toNat)]) ∧ w = w' := by
  obtain ⟨h1, h2⟩ := h
  go_enter Try.func27, Try.ntmps27
  go_wp2_with fail
  refine (validSet_yes _ _ _ h1).mono ?_; rintro e w1 ⟨rfl, rfl⟩
  go_wp2_with fail
  refine (validSet_yes _ _ _ h2).mono ?_; rintro e w1 ⟨rfl, rfl⟩
  go_wp2_with fail
  refine (ssums_any _ _ _ _ h1 h2).mono ?_; rintro e w1 ⟨rfl, rfl⟩
  go_wp2_with fail
  go_ret2
  exact ⟨rfl, rfl⟩
theorem sSumsOf_no (n a b : Int) (w : World) (h : ¬ TwoOk n a b) :
    Calls Try.prog 27 #[.int .i64 n, .int .i64 a, .int .i64 b] w fun e w' => e = .returned (.tuple #[.int .i64 (-1), .bool false]) ∧ w = w' := by
  by_cases h1 : Tic.Valid n a
  · have h2 : ¬ Tic.Valid n b := fun h2 => h ⟨h1, h2⟩
    clear h
    go_enter Try.func27, Try.ntmps27
    go_wp2_with fail
    refine (validSet_yes _ _ _ h1).mono ?_; rintro e w1 ⟨rfl, rfl⟩
    go_wp2_with fail
    refine (validSet_no _ _ _ h2).mono ?_; rintro e w1 ⟨rfl, rfl⟩
    go_wp2_with fail
    go_ret2
    exact ⟨rfl, rfl⟩
  · clear h
    go_enter Try.func27, Try.ntmps27
    go_wp2_with fail
    refine (validSet_no _ _ _ h1).mono ?_; rintro e w1 ⟨rfl, rfl⟩
    go_wp2_with fail
    go_ret2
    exact ⟨rfl, rfl⟩
theorem iSumsOf_no (n a b : Int) (w : World) (h : ¬ TwoOk n a b) :
    Calls Try.prog 26 #[.int .i64 n, .int .i64 a, .int .i64 b] w fun e w' => e = .returned (.tuple #[.int .i64 (-1), .bool false]) ∧ w = w' := by
  by_cases h1 : Tic.Valid n a
  · have h2 : ¬ Tic.Valid n b := fun h2 => h ⟨h1, h2⟩
    clear h
    go_enter Try.func26, Try.ntmps26
    go_wp2_with fail
    refine (implValid_yes _ _ _ h1).mono ?_; rintro e w1 ⟨rfl, rfl⟩
    go_wp2_with fail
    refine (implValid_no _ _ _ h2).mono ?_; rintro e w1 ⟨rfl, rfl⟩
    go_wp2_with fail
    go_ret2
    exact ⟨rfl, rfl⟩
  · clear h
    go_enter Try.func26, Try.ntmps26
    go_wp2_with fail
    refine (implValid_no _ _ _ h1).mono ?_; rintro e w1 ⟨rfl, rfl⟩
    go_wp2_with fail
    go_ret2
    exact ⟨rfl, rfl⟩
/-- a new block of an array that was made elsewhere -/
theorem arr_made {w : World} (C : Nat → Nat) : Arr (w.alloc (.cells (cellsOf C) 53)) w.heap.size C := heap_alloc_new _ _
set_option maxRecDepth 20000 in
set_option maxHeartbeats 1000000 in
theorem iSumsOf_yes (n a b : Int) (w : World) (h : TwoOk n a b) :
    Calls Try.prog 26 #[.int .i64 n, .int .i64 a, .int .i64 b] w fun e w' => e = .returned (.tuple #[.int .i64 (Tic.un n.toNat a.toNat b.toNat n.toNat : Int), .bool (Tic.okk n.toNat a.toNat b.toNat n.toNat)]) ∧ Below w.heap.size w w' := by
  obtain ⟨h1, h2⟩ := h
  have g1 := h1.1
  have g2 := h1.2.1
  obtain ⟨N, rfl⟩ := Int.eq_ofNat_of_zero_le (show 0 ≤ n by omega)
  obtain ⟨A, rfl⟩ := Int.eq_ofNat_of_zero_le h1.2.2.1
  obtain ⟨B, rfl⟩ := Int.eq_ofNat_of_zero_le h2.2.2.1
  have HV := Lib.hid h1
  have HV2 := Lib.hid h2
  have HU : Hid (Tic.Valid (N : Int) (Tic.un N A B N : Int)) := Lib.hid ⟨h1.1, h1.2.1, Int.natCast_nonneg _, by have := Tic.un_lt (n := N) (by omega) A B N; exact Int.ofNat_lt.2 this⟩
  have HC : Hid (∀ t, Tic.cn N A B t N ≤ 144) := Lib.hid (fun t => by have := Tic.cn_le N A B t N; omega)
  have HZ : Hid (∀ t, N ≤ t → Tic.cn N A B t N = 0) := Lib.hid (fun t ht => Tic.cn_big (by omega) A B t N ht)
  have HS := Lib.hid (stOf_cn (n := N) (by omega) (by omega) A B)
  have HO : Hid (eqAt (fun t => Tic.cn N A B t N) (fun t => Tic.wnd (Tic.un N A B N) N t N) (List.range 12) = Tic.okk N A B N) := Lib.hid (by
    rw [Bool.eq_iff_iff, eqAt_all, Tic.okk_wnd (by omega) (by omega)])
  simp only [Int.toNat_natCast]
  clear h1 h2
  go_enter Try.func26, Try.ntmps26
  go_wp2_with fail
  refine (implValid_yes _ _ _ HV.out).mono ?_; rintro e w1 ⟨rfl, rfl⟩
  go_wp2_with fail
  refine (implValid_yes _ _ _ HV2.out).mono ?_; rintro e w1 ⟨rfl, rfl⟩
  go_wp2_with fail
  refine (canon_any _ _ _ _ _ HV.out HV2.out rfl).mono ?_; rintro e w1 ⟨rfl, hb1⟩
  simp only [Int.toNat_natCast]
  go_wp2_with (first | refine wpList_store_row rfl 53 _ _ rfl w1.heap.size _ rfl rfl 53 _ (heap_alloc_new _ _) (by rw [cellsOf_size]; exact info_beats) (by rw [cellsOf_size]; rfl) (cellsOf_one _) ?_ | refine wpList_load_row rfl 53 _ rfl w1.heap.size rfl 53 _ (0, 0) _ (setRow_heap _ _ _ _ _ _ (heap_alloc_new _ _)) Try.underlying53 rfl (by rw [cellsOf_size]; exact info_beats) ?_)
  refine (times_any _ N _ (by omega) (by omega) HC.out HZ.out).mono ?_; rintro e w2 ⟨rfl, hb2⟩
  rw [HS.out]
  have A8 := (show Arr ((w1.alloc (.cells #[.int .i64 0, .int .i64 0, .int .i64 0, .int .i64 0, .int .i64 0, .int .i64 0, .int .i64 0, .int .i64 0, .int .i64 0, .int .i64 0, .int .i64 0, .int .i64 0] 53)).setRow w1.heap.size (cellsOf fun t => Tic.cn N A B t N)) w1.heap.size (fun t => Tic.cn N A B t N) from setRow_heap _ _ _ _ _ _ (heap_alloc_new _ _)).kept hb2 (by simp)
  have HB : Hid (Below w.heap.size w w2) := Lib.hid ((below_row ((hb1).alloc hb1.size _) hb1.size _).trans (hb2.mono (by have := hb1.size; simp; omega)))
  have hz2 := A8.lt
  have hia := eql_arr (fun t => Tic.cn N A B t N) (fun t => Tic.wnd (Tic.un N A B N) N t N)
  rw [HO.out] at hia
  obtain ⟨cs, hcs⟩ : ∃ cs, cs = (Tic.cts 12 (fun t => Tic.cn N A B t N)).map (Value.int .i64) := ⟨_, rfl⟩
  have hcs2 : cellsOf (fun t => Tic.cn N A B t N) = cs.toArray := by rw [hcs]; rfl
  rw [hcs2] at hia
  have hlen : (Try.prog.info? 53).map (·.size) = some cs.length := by rw [hcs]; simp only [List.length_map, Tic.cts_length]; exact info_beats
  have hul := Try.underlying53
  have hra : ∀ W' : World, Arr W' w1.heap.size (fun t => Tic.cn N A B t N) → W'.rangeAt w1.heap.size 0 cs := fun W' hA j v hv => by
    rw [Nat.zero_add, cell_of_row _ _ _ _ _ _ hA, hcs2]; simpa using hv
  have hgu := eqGuard_arr
  clear hb1 hb2
  go_wp2_with fail
  obtain ⟨W, hW⟩ : ∃ W, W = w2.alloc (.cells #[.int .i64 N, .int .i64 (Tic.un N A B N : Int)] 45) := ⟨_, rfl⟩
  have A9 := A8.alloc (.cells #[.int .i64 N, .int .i64 (Tic.un N A B N : Int)] 45)
  have c0 : W.cell? ⟨w2.heap.size, 0, none⟩ = some (.int .i64 N) := by rw [hW]; go_simp
  have c1 : W.cell? ⟨w2.heap.size, 1, none⟩ = some (.int .i64 (Tic.un N A B N : Int)) := by rw [hW]; go_simp
  have hWs : W.heap.size = w2.heap.size + 1 := by rw [hW]; simp
  have HB2 : Hid (Below w.heap.size w W) := by rw [hW]; exact Lib.hid (HB.out.alloc HB.out.size _)
  rw [← hW] at A9 ⊢
  have R9 := hra _ A9
  clear hW A8 HB hra hcs2 hcs A9
  have hk0 : Below W.heap.size W W := Below.refl _ _
  have hz3 : w2.heap.size < W.heap.size := by omega
  have hz4 : w1.heap.size < W.heap.size := by omega
  go_region_held3 (fun w' => w'.cell? ⟨w2.heap.size, 0, none⟩ = some (.int .i64 N) ∧ w'.cell? ⟨w2.heap.size, 1, none⟩ = some (.int .i64 (Tic.un N A B N : Int)) ∧ w'.rangeAt w1.heap.size 0 cs)
    (exact ⟨(hk0.cell hz3).trans c0, (hk0.cell hz3).trans c1, fun j v hv => (hk0.cell (p := ⟨w1.heap.size, 0 + j, none⟩) hz4).trans (R9 j v hv)⟩)
    (first | (go_at_call 62; refine (wound_any _ _ _ _ HU.out (by omega) (by omega)).mono ?_; rintro e w3 ⟨rfl, hb⟩; replace hk0 : Below W.heap.size W w3 := (by first | exact grow1 hk0 hb | exact grow0 hk0 hb); clear hb))
  all_goals
    have hb3 := HB2.out.trans (hk0.mono HB2.out.size)
    go_wp2
    go_ret2
    exact ⟨rfl, hb3⟩
end Go.Proofs.Ytgpbgbcdlebaiaa
