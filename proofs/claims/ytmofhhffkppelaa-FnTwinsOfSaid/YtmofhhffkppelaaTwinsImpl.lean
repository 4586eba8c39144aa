/-
  The contract of the program's TwinsOf.
-/
import Derived.Test.YtmofhhffkppelaaTwinsYes
namespace Go.Proofs.Ytmofhhffkppelaa
open Go.RowKit
set_option linter.unusedVariables false

set_option maxRecDepth 20000 in
set_option maxHeartbeats 1000000 in
theorem iTwinsOf_yes (n k : Int) (w : World) (h : Counts n k) :
    Calls Try.prog 8 #[.int .i64 n, .int .i64 k] w (GivesLists (pairsTo n.toNat (primesTo n.toNat k.toNat (2 ^ n.toNat)) (primesTo n.toNat k.toNat (2 ^ n.toNat)).length) w) := by
  have HC := Lib.hid h
  obtain ⟨h1, h2, h3, h4⟩ := h
  obtain ⟨N, rfl⟩ := Int.eq_ofNat_of_zero_le (show 0 ≤ n by omega)
  obtain ⟨K, rfl⟩ := Int.eq_ofNat_of_zero_le h3
  rw [Int.toNat_natCast, Int.toNat_natCast]
  have HF := Lib.hid (fun i => @told_at N K i)
  have HN := Lib.hid (fun i j => @told_ne N K i j)
  generalize hg : primesTo N K (2 ^ N) = P at HF HN ⊢
  have HGP := Lib.hid hg
  clear hg
  go_enter Try.func8, Try.ntmps8
  go_wp2_with fail
  refine (iPrimesOf_yes _ _ _ HC.out).mono ?_; rintro e w1 ⟨v, rfl, hr, hb⟩
  rw [Int.toNat_natCast, Int.toNat_natCast, HGP.out] at hr
  have HR := Lib.hid hr
  have HB := Lib.hid hb
  have HO := Lib.hid (Lists.nil w1 w.heap.size)
  have hP : P.length ≤ 4096 := by rw [← HGP.out]; exact Nat.le_trans (primes_few _ _ _) (Nat.pow_le_pow_right (n := 2) (by decide) (show N ≤ 12 by omega))
  have HV : Hid (∀ s : Nat, s < 2 ^ N → Tic.Valid N s) := fun s hs => ⟨h1, h2, by omega, by rw [Int.toNat_natCast]; omega⟩
  rcases HR.out.cases with ⟨rfl, rfl⟩ | ⟨g, c, rfl, hg0, hg1, _, _⟩
  · go_wp2
    refine wp_loop_rounds 1 ?_
    rw [rounds_succ]
    go_wp2
    go_ret
    exact ⟨_, _, rfl, HO.out, HB.out⟩
  · have hmc : P.length ≤ c := hr.capge.1
    generalize hm : P.length = m at HR HF HN hP hmc
    have HM := Lib.hid hm
    clear hr hm hb
    go_wp2
    go_loopw [6, 16] (fun t6 t16 wr => ∃ (i : Nat) (vs : List Value), i ≤ m ∧ t16 = .int .i64 i ∧ Hid (Lists wr w.heap.size t6 vs (pairsTo N P i)) ∧ t6.ownBlock ≠ some g ∧ Hid (Row wr w.heap.size (.slice (some ⟨g, 0, none⟩) m c) P) ∧ Hid (Below w.heap.size w wr)) (fun _ t16 _ => m - (intOf t16).toNat)
    case atStart => exact ⟨0, [], Nat.zero_le _, rfl, HO, by simp [Value.ownBlock], HR, HB⟩
    case round =>
      obtain ⟨i, vs, hi, rfl, HO1, hne, HR1, HW1⟩ := hrel
      by_cases hlt : i < m
      · obtain ⟨s1, ea, hs1, hp1⟩ := HF.out i hlt
        have d1 : wr.cell? ⟨g, i, none⟩ = some (.int .i64 s1) := by rw [← ea]; exact (HR1.out.cells_at (by rw [HM.out]; exact hlt)).2
        have hi0 : (i : Int) < (m : Int) := by omega
        have hi1 : (i : Int) + 1 ≤ (m : Int) := by omega
        have HD1 := Lib.hid d1
        by_cases hcc : c = i + 1
        · have hmi : m = i + 1 := by omega
          have HMI := Lib.hid hmi
          have hm0 : m - (i + 1) = 0 := by omega
          subst hcc
          clear hmi
          go_wp2
          refine wp_loop_rounds 1 ?_
          rw [rounds_succ]
          go_wp2
          go_roundw
          case rel => exact ⟨i + 1, vs, by omega, by go_num, by rw [pairsTo, rowTo_start P.length (by rw [HM.out]; exact Nat.le_of_eq HMI.out), List.append_nil]; exact HO1, hne, HR1, HW1⟩
          case measure => simp [intOf]; omega
        · have hci : ¬ c = i + 1 := hcc
          go_wp2
          go_loopw [6, 26] (fun t6 t26 wr => ∃ (r : Nat) (vs : List Value), r ≤ m - (i + 1) ∧ t26 = .int .i64 r ∧ Hid (Lists wr w.heap.size t6 vs (pairsTo N P i ++ rowTo N P i (i + 1 + r))) ∧ t6.ownBlock ≠ some g ∧ Hid (Row wr w.heap.size (.slice (some ⟨g, 0, none⟩) m c) P) ∧ Hid (Below w.heap.size w wr)) (fun _ t26 _ => (m - (i + 1)) - (intOf t26).toNat)
          case atStart => exact ⟨0, vs, Nat.zero_le _, rfl, by rw [rowTo_start (i + 1 + 0) (Nat.le_refl _), List.append_nil]; exact HO1, hne, HR1, HW1⟩
          case round =>
            clear HO1 HR1 HW1 hne d1 HD1
            obtain ⟨r, vs, hr, rfl, HO1, hne, HR1, HW1⟩ := hrel
            by_cases hlt2 : r < m - (i + 1)
            · obtain ⟨s2, eb, hs2, hp2⟩ := HF.out (i + 1 + r) (by omega)
              have hva := HV.out s1 hs1
              have hvb := HV.out s2 hs2
              have d2 : wr.cell? ⟨g, i + 1 + r, none⟩ = some (.int .i64 s2) := by rw [← eb]; exact (HR1.out.cells_at (by rw [HM.out]; omega)).2
              have hrI : (r : Int) < ((m - (i + 1) : Nat) : Int) := by omega
              have HT := Lib.hid (fun w => iAreTwins_yes (N : Int) (s1 : Int) (s2 : Int) w hva hvb)
              simp only [Int.toNat_natCast] at HT
              have hwz := HW1.out.size
              cases htw : twins N s1 s2 with
              | true =>
                rw [htw] at HT
                have HRT := Lib.hid (rowTo_yes (n := N) (P := P) (show i < i + 1 + r by omega) (by rw [ea, eb]; exact htw))
                rw [ea, eb] at HRT
                clear htw
                have hl1 := pairs_len (n := N) (i := i) (j := i + 1 + r) (P := P) (by rw [HM.out]; exact hP) (by rw [HM.out]; exact hlt) (by rw [HM.out]; omega)
                go_wp2_with fail
                refine (HT.out _).mono ?_; rintro e w2 ⟨rfl, hb2⟩
                have HO2 := Lib.hid (HO1.out.kept hb2)
                have HR2 := Lib.hid (HR1.out.kept hb2)
                have HW2 := Lib.hid (HW1.out.trans (hb2.mono hwz))
                have hwz2 := HW2.out.size
                clear hb2 HO1 HR1 HW1 d2
                have hu6 : ∀ q, u6.ownBlock = some q → q < w2.heap.size := fun q hq => (HO2.out.2.2.1.lt q hq).2
                have HU6 := Lib.hid hu6
                clear hu6
                go_wp2_with (at_builtin; refine wpList_append_list rfl _ _ rfl w.heap.size _ vs _ rfl ((HO2.out.alloc _).alloc _) (w2.heap.size + 1) 1 (.slice (some ⟨w2.heap.size, 0, none⟩) 2 2) [(s1 : Int), (s2 : Int)] rfl ?c0 ?c1 ?c2 ?c3 ?c4 ?c5 ?c6 ?_)
                case c0 => go_simp
                case c1 => exact ((row_lit2 w2 [(s1 : Int), (s2 : Int)] (by simp)).alloc _).mono hwz2
                case c2 => rfl
                case c3 => intro q hq e; have := HU6.out q e; simp [Value.ownBlock] at hq; omega
                case c4 => intro q1 q hq1 hq; have := ((HO2.out.2.2.2.1 q1 hq1).1.lt q hq).2; simp [Value.ownBlock]; omega
                case c5 => exact hl1
                case c6 => simp; omega
                intro v' w3 hl3 hb3 hg3 hk3
                have hgsz : g < w2.heap.size := by
                  have := (HR2.out.cells_at (i := i) (by rw [HM.out]; exact hlt)).1
                  exact this
                have HL3 := Lib.hid hl3
                have hne3 : v'.ownBlock ≠ some g := by
                  rcases hk3 with q | q
                  · rw [q]; exact hne
                  · rw [q]; simp; omega
                have HR3 : Hid (Row w3 w.heap.size (.slice (some ⟨g, 0, none⟩) m c) P) := Lib.hid ⟨((HR2.out.alloc (.cells #[.int .i64 (s1 : Int), .int .i64 (s2 : Int)] 3)).alloc (.cells #[.slice (some ⟨w2.heap.size, 0, none⟩) 2 2] 29)).1.kept hg3 (.inr (fun e => hne (by first | exact e.symm | exact e))), HR2.out.2⟩
                have HW3 := Lib.hid (((HW2.out.alloc hwz2 (.cells #[.int .i64 (s1 : Int), .int .i64 (s2 : Int)] 3)).alloc (by simp; omega) (.cells #[.slice (some ⟨w2.heap.size, 0, none⟩) 2 2] 29)).trans hb3)
                clear hl3 hb3 hg3 hk3 HO2 HR2 HW2
                go_wp2
                go_roundw
                case rel => exact ⟨r + 1, _, by omega, by go_num, by rw [← Nat.add_assoc, HRT.out]; exact HL3, hne3, HR3, HW3⟩
                case measure => simp [intOf]; omega
              | false =>
                rw [htw] at HT
                have HRT := Lib.hid (rowTo_no (n := N) (P := P) (i := i) (j := i + 1 + r) (by rw [ea, eb]; simp [htw]))
                clear htw
                go_wp2_with fail
                refine (HT.out _).mono ?_; rintro e w2 ⟨rfl, hb2⟩
                have HO2 := Lib.hid (HO1.out.kept hb2)
                have HR2 := Lib.hid (HR1.out.kept hb2)
                have HW2 := Lib.hid (HW1.out.trans (hb2.mono hwz))
                clear hb2 HO1 HR1 HW1 d2
                go_wp2
                go_roundw
                case rel => exact ⟨r + 1, vs, by omega, by go_num, by rw [← Nat.add_assoc, HRT.out]; exact HO2, hne, HR2, HW2⟩
                case measure => simp [intOf]; omega
            · have hrq : i + 1 + r = m := by omega
              have HRQ := Lib.hid hrq
              clear hrq
              go_wp2
              go_roundw
              case rel => exact ⟨i + 1, vs, by omega, by go_num, by rw [pairsTo, HM.out, ← HRQ.out]; exact HO1, hne, HR1, HW1⟩
              case measure => simp [intOf]; omega
      · have : i = m := by omega
        subst this
        go_wp2
        go_ret
        exact ⟨_, vs, rfl, by rw [HM.out]; exact HO1.out, HW1.out⟩
end Go.Proofs.Ytmofhhffkppelaa
