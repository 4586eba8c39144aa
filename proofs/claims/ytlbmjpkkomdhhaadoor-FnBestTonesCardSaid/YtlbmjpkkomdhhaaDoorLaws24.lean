/-
  The walks of the laws of LeftOf and BestTones.
-/
import Derived.Test.YtlbmjpkkomdhhaaDoorTuneDraw
import Derived.Test.YtlbmjpkkomdhhaaDoorEqInts
import Derived.Test.YtlbmjpkkomdhhaaDoorBest
import Derived.Test.YtlbmjpkkomdhhaaDoorPowOf
import Derived.Test.YtlbmjpkkomdhhaaDoorAscends
import Derived.Test.YtlbmjpkkomdhhaaDoorExact6A
namespace Go.Proofs.YtlbmjpkkomdhhaaDoor
open Go.RowKit
set_option linter.unusedVariables false
set_option maxRecDepth 20000

/-- a list as a slice: its cells, if there are some -/
theorem Row.vw' {w : World} {B : Nat} {v : Value} {L : List Int} (h : Row w B v L) : ∃ a c, v = .slice a L.length c ∧ (0 < L.length → ∃ g, a = some ⟨g, 0, none⟩ ∧ B ≤ g ∧ g < w.heap.size ∧ ∀ i, i < L.length → w.cell? ⟨g, i, none⟩ = some (.int .i64 (L.getD i 0))) := by
  rcases h.cases with ⟨rfl, rfl⟩ | ⟨g, c, rfl, h1, h2, h3, _⟩
  · exact ⟨none, 0, rfl, fun h => by simp at h⟩
  · exact ⟨_, c, rfl, fun _ => ⟨g, rfl, h1, h2, h3⟩⟩
set_option maxHeartbeats 400000 in
theorem lisIn_any (v : Value) (B : Nat) (L : List Int) (x : Int) (w : World) (h : Row w B v L) :
    Calls Tryd.prog 32 #[v, .int .i64 x] w fun e w' => e = .returned (.bool (decide (x ∈ L))) ∧ w = w' := by
  rcases h.cases with ⟨rfl, rfl⟩ | ⟨g, cap, rfl, _, _, hc, _⟩
  · rw [decide_eq_false (by simp)]
    go_enter Tryd.func32, Tryd.ntmps32
    go_wp2
    refine wp_loop_rounds 1 ?_
    rw [rounds_succ]
    go_wp2
    go_ret
    exact ⟨rfl, rfl⟩
  · have HC := Lib.hid hc
    have HM : Hid (∀ k, k < L.length → L.getD k 0 ∈ L) := Lib.hid (fun k hk => by rw [List.getD_eq_getElem?_getD, List.getElem?_eq_getElem hk]; exact List.getElem_mem hk)
    have HI : Hid (∀ y, y ∈ L → ∃ k, k < L.length ∧ L.getD k 0 = y) := Lib.hid (fun y hy => by
      obtain ⟨k, hk, e⟩ := List.getElem_of_mem hy
      exact ⟨k, hk, by rw [List.getD_eq_getElem?_getD, List.getElem?_eq_getElem hk]; exact e⟩)
    have hl := h.2
    have HD : Hid (∃ b, b = decide (x ∈ L)) := ⟨_, rfl⟩
    obtain ⟨b, hb⟩ := HD.out
    rw [← hb]
    have HB := Lib.hid hb
    clear hc h hb
    generalize hn : L.length = n at *
    clear hn
    go_enter Tryd.func32, Tryd.ntmps32
    go_wp2
    go_loop [5] (fun t5 => ∃ k : Nat, k ≤ n ∧ t5 = .int .i64 k ∧ Hid (∀ j, j < k → L.getD j 0 ≠ x)) (fun t5 => n - (intOf t5).toNat)
    case atStart => exact ⟨0, Nat.zero_le _, rfl, fun j hj => by omega⟩
    case round =>
      obtain ⟨k, hk, rfl, HN⟩ := hrel
      by_cases hlt : k < n
      · have hck := HC.out k hlt
        have hmk := HM.out k hlt
        by_cases he : L.getD k 0 = x
        · have HT : Hid (b = true) := Lib.hid (by rw [HB.out, ← he]; exact decide_eq_true hmk)
          rw [he] at hck
          clear he hmk
          go_wp2
          go_ret
          exact ⟨ret_bool HT.out.symm, rfl⟩
        · have HN2 : Hid (∀ j, j < k + 1 → L.getD j 0 ≠ x) := Lib.hid (fun j hj => by
            by_cases e : j = k
            · subst e; exact he
            · exact HN.out j (by omega))
          clear hmk
          generalize L.getD k 0 = y at hck he
          go_wp2
          go_round
          case rel => exact ⟨k + 1, by omega, by go_num, HN2⟩
          case measure => simp [intOf]; omega
      · obtain rfl : k = n := by omega
        have HF : Hid (b = false) := Lib.hid (by
          rw [HB.out]
          exact decide_eq_false (fun hx => by obtain ⟨j, hj, e⟩ := HI.out x hx; exact HN.out j hj e))
        go_wp2
        go_ret
        exact ⟨ret_bool HF.out.symm, rfl⟩
namespace Tic
theorem bst_tab : ∀ n : Fin 13, ∀ k : Fin 13, 1 ≤ k.val → k.val ≤ n.val → decide (((k.val : Nat) : Int) ∈ bstTo n.val) = bst k.val := by decide +kernel
theorem bst_tab2 : ∀ n : Fin 13, (bstTo n.val).Pairwise (· < ·) ∧ (1 ≤ n.val → (bstTo n.val).getD 0 0 = 1 ∧ 1 ≤ (bstTo n.val).length) ∧ ∀ y ∈ bstTo n.val, 0 ≤ y ∧ y ≤ 5000 := by decide +kernel
theorem left_sq : ∀ n : Fin 13, 1 ≤ n.val → lfD n.val < lfU n.val ∧ lfU n.val * lfU n.val ≤ 2 * lfD n.val * lfD n.val ∧ ((lfU n.val % 2 == 0) != (lfD n.val % 2 == 0)) = true := by decide +kernel
end Tic
set_option maxHeartbeats 1000000 in
theorem FnLeftOf_walk (x : Option Addr) (len cap : Nat) (w : World) (h : Code w x len cap) (hsh : Primes w) :
    Calls Tryd.prog 7 #[.slice x len cap] w fun e w' => e = .returned (.bool true) ∧ Below w.heap.size w w' := by
  by_cases hl : len ≤ 1048576
  · have HD := Lib.hid (drawLeftOf x len cap w h)
    have HSH := Lib.hid hsh
    clear h hsh
    go_enter Tryd.func7, Tryd.ntmps7
    go_wp2_with fail
    refine HD.out.mono ?_; rintro e w1 ⟨n, rfl, n0, n1, hb⟩
    have HB := Lib.hid hb
    clear hb
    have HI := Lib.hid (iLeftOf_any n w1 (HSH.out.kept HB.out))
    have HS := Lib.hid (fun w => sLeftOf_any n w)
    by_cases hn : 1 ≤ n ∧ n ≤ 12
    · obtain ⟨N, rfl⟩ := Int.eq_ofNat_of_zero_le (show 0 ≤ n by omega)
      rw [leftV_yes (by omega) (by omega)] at HI HS
      obtain ⟨t1, t2, t3⟩ := Tic.left_sq ⟨N, by omega⟩ (by simp only; omega)
      obtain ⟨b1, b2⟩ := Tic.left_bd (n := N) (by omega)
      simp only at t1 t2 t3
      generalize Tic.lfU N = U at *
      generalize Tic.lfD N = D at *
      have hUU : U * U ≤ 1048576 * 1048576 := Nat.mul_le_mul (by omega) (by omega)
      have hDD : 2 * D * D ≤ 2097152 * 1048576 := Nat.mul_le_mul (by omega) (by omega)
      have e1 : (U : Int) * (U : Int) = ((U * U : Nat) : Int) := (Int.natCast_mul _ _).symm
      have e2 : 2 * (D : Int) * (D : Int) = ((2 * D * D : Nat) : Int) := by rw [Int.natCast_mul, Int.natCast_mul]; rfl
      generalize U * U = p at *
      generalize 2 * D * D = q at *
      have E1 := Lib.hid e1
      have E2 := Lib.hid e2
      have k1 := IntWalk.i64_in (p : Int) (by omega)
      have k2 := IntWalk.i64_in (q : Int) (by omega)
      have k3 := IntWalk.i64_in (2 * (D : Int)) (by omega)
      have hpar : (U % 2 = 0 ∧ D % 2 = 1) ∨ (U % 2 = 1 ∧ D % 2 = 0) := by
        have h1 := Nat.mod_lt U (y := 2) (by omega)
        have h2 := Nat.mod_lt D (y := 2) (by omega)
        rcases (show U % 2 = 0 ∨ U % 2 = 1 by omega) with a | a <;> rcases (show D % 2 = 0 ∨ D % 2 = 1 by omega) with b | b
        · rw [a, b] at t3; cases t3
        · exact .inl ⟨a, b⟩
        · exact .inr ⟨a, b⟩
        · rw [a, b] at t3; cases t3
      clear e1 e2 t3 hn
      rcases hpar with ⟨m1, m2⟩ | ⟨m1, m2⟩
      · have r1 : ((U : Int) % 2 == 0) = true := rem_yes m1
        have r2 : ((D : Int) % 2 == 0) = false := rem_no (u := D) (p := 2) (by omega)
        clear m1 m2
        go_wp2_with fail
        refine HI.out.mono ?_; rintro e w2 ⟨rfl, hb⟩
        have hB := HB.out.trans (hb.mono HB.out.size)
        clear hb
        go_wp2_with fail
        refine (HS.out _).mono ?_; rintro e w3 ⟨rfl, rfl⟩
        have e1 := E1.out
        have e2 := E2.out
        go_wp2_with fail
        go_ret
        exact ⟨rfl, hB⟩
      · have r1 : ((U : Int) % 2 == 0) = false := rem_no (u := U) (p := 2) (by omega)
        have r2 : ((D : Int) % 2 == 0) = true := rem_yes m2
        clear m1 m2
        go_wp2_with fail
        refine HI.out.mono ?_; rintro e w2 ⟨rfl, hb⟩
        have hB := HB.out.trans (hb.mono HB.out.size)
        clear hb
        go_wp2_with fail
        refine (HS.out _).mono ?_; rintro e w3 ⟨rfl, rfl⟩
        have e1 := E1.out
        have e2 := E2.out
        go_wp2_with fail
        go_ret
        exact ⟨rfl, hB⟩
    · rw [leftV_no (by omega)] at HI HS
      clear hn
      go_wp2_with fail
      refine HI.out.mono ?_; rintro e w2 ⟨rfl, hb⟩
      have hB := HB.out.trans (hb.mono HB.out.size)
      clear hb
      go_wp2_with fail
      refine (HS.out _).mono ?_; rintro e w3 ⟨rfl, rfl⟩
      go_wp2_with fail
      go_ret
      exact ⟨rfl, hB⟩
  · clear h
    go_enter Tryd.func7, Tryd.ntmps7
    go_wp2
    go_ret
    exact ⟨rfl, Below.refl _ _⟩
set_option maxHeartbeats 2000000 in
theorem FnBestTones_walk (x : Option Addr) (len cap : Nat) (w : World) (h : Code w x len cap) (hsh : Primes w) :
    Calls Tryd.prog 8 #[.slice x len cap] w fun e w' => e = .returned (.bool true) ∧ Below w.heap.size w w' := by
  by_cases hl : len ≤ 1048576
  · have HD := Lib.hid (drawBestTones x len cap w h)
    have HSH := Lib.hid hsh
    clear h hsh
    go_enter Tryd.func8, Tryd.ntmps8
    go_wp2_with fail
    refine HD.out.mono ?_; rintro e w1 ⟨n, rfl, n0, n1, hb⟩
    have HB := Lib.hid hb
    clear hb
    by_cases hn : 1 ≤ n ∧ n ≤ 12
    · obtain ⟨N, rfl⟩ := Int.eq_ofNat_of_zero_le (show 0 ≤ n by omega)
      obtain ⟨h1, h2⟩ := hn
      have HI := Lib.hid (iBest_yes N w1 (HSH.out.kept HB.out) (by omega) (by omega))
      have HS := Lib.hid (fun w => sBest_yes N w (by omega) (by omega))
      obtain ⟨t1, t2, t3⟩ := Tic.bst_tab2 ⟨N, by omega⟩
      obtain ⟨s2, t4⟩ := t2 (by simp only; omega)
      clear t2
      simp only at t1 s2 t3 t4
      have HT : Hid (∀ k, 1 ≤ k → k ≤ N → decide ((k : Int) ∈ Tic.bstTo N) = Tic.bst k) := Lib.hid (fun k hk1 hk2 => Tic.bst_tab ⟨N, by omega⟩ ⟨k, by omega⟩ hk1 hk2)
      have HTP := Lib.hid t1
      have HTB := Lib.hid t3
      have HLF : Hid (∀ (k : Nat) (W : World), 1 ≤ k → k ≤ 12 → Below w.heap.size w W → Calls Tryd.prog 27 #[.int .i64 k] W fun e w' => e = .returned (.tuple #[.int .i64 (Tic.lfU k : Int), .int .i64 (Tic.lfD k : Int)]) ∧ Below W.heap.size W w') := Lib.hid (fun k W hk1 hk2 hW => by
        have := iLeftOf_any k W (HSH.out.kept hW)
        rwa [leftV_yes hk1 hk2] at this)
      clear t1 t3
      generalize hBL : Tic.bstTo N = BL at *
      clear hBL
      go_wp2_with fail
      refine HI.out.mono ?_; rintro e w2 ⟨v, rfl, hr, hb⟩
      have R2 := Lib.hid hr
      have B2 := Lib.hid (HB.out.trans (hb.mono HB.out.size))
      clear hr hb HB HI
      go_wp2_with fail
      refine (HS.out _).mono ?_; rintro e w3 ⟨v3, rfl, hr, hb⟩
      have R3 := Lib.hid (R2.out.kept hb)
      have S3 := Lib.hid hr
      have B3 := Lib.hid (B2.out.trans (hb.mono B2.out.size))
      clear hr hb B2 R2
      go_wp2_with fail
      refine (equalInts_yes _ _ _ _ _ _ R3.out S3.out).mono ?_; rintro e w4 ⟨rfl, hb⟩
      have R4 := Lib.hid (R3.out.kept hb)
      have B4 := Lib.hid (B3.out.trans (hb.mono B3.out.size))
      clear hb B3 R3 S3
      obtain ⟨a, c, rfl, hvw⟩ := R4.out.vw'
      have hll := R4.out.2
      have hl0 : ((BL.length : Int) == 0) = false := by rw [beq_eq_false_iff_ne]; omega
      generalize hBLn : BL.length = bl at *
      have HBL := Lib.hid hBLn
      clear hBLn
      go_wp2
      go_loopw [5] (fun t5 wr => ∃ k : Nat, k ≤ N ∧ t5 = .int .i64 ((k : Int) + 1) ∧ Hid (Row wr w1.heap.size (.slice a bl c) BL) ∧ Hid (Below w.heap.size w wr)) (fun t5 _ => N + 1 - (intOf t5).toNat)
      case atStart => exact ⟨0, Nat.zero_le _, rfl, R4, B4⟩
      case round =>
        clear R4 B4
        obtain ⟨k, hk, rfl, R4, B4⟩ := hrel
        by_cases hlt : k < N
        · have hcast : ((k + 1 : Nat) : Int) = (k : Int) + 1 := by omega
          have HK := Lib.hid (HLF.out (k + 1) wr (by omega) (by omega) B4.out)
          have HTK := Lib.hid (HT.out (k + 1) (by omega) (by omega))
          rw [hcast] at HK HTK
          have HM := Lib.hid (fun m (hm : m ≤ 12) => Tic.left_mul (i := k + 1) (j := m) (by omega) hm)
          have HM2 := Lib.hid (fun m (hm : m ≤ 12) => Tic.left_mul (i := m) (j := k + 1) hm (by omega))
          have HST : Hid (∀ m, Tic.bstI (k + 1) (m + 1) = (Tic.bstI (k + 1) m && decide (Tic.lfU (k + 1) * Tic.lfD (m + 1) < Tic.lfU (m + 1) * Tic.lfD (k + 1)))) := Lib.hid (fun m => rfl)
          have HB1 : Hid (Tic.bst (k + 1) = Tic.bstI (k + 1) k) := Lib.hid rfl
          generalize Tic.lfU (k + 1) = U at *
          generalize Tic.lfD (k + 1) = D at *
          go_wp2_with fail
          refine HK.out.mono ?_; rintro e w5 ⟨rfl, hb⟩
          have R5 := Lib.hid (R4.out.kept hb)
          have B5 := Lib.hid (B4.out.trans (hb.mono B4.out.size))
          clear hb R4 B4 HK
          go_wp2
          obtain ⟨wo, rfl⟩ : ∃ wo : World, wo = wr := ⟨_, rfl⟩
          go_loopw [8, 9] (fun t8 t9 wr => ∃ m : Nat, m ≤ k ∧ t9 = .int .i64 ((m : Int) + 1) ∧ t8 = .bool (Tic.bstI (k + 1) m) ∧ Hid (Row wr w1.heap.size (.slice a bl c) BL) ∧ Hid (Below w.heap.size w wr)) (fun _ t9 _ => k + 1 - (intOf t9).toNat)
          case atStart => exact ⟨0, Nat.zero_le _, rfl, rfl, R5, B5⟩
          case round =>
            clear R5 B5
            obtain ⟨m, hm, rfl, rfl, R5, B5⟩ := hrel
            by_cases hltm : m < k
            · have hcm : ((m + 1 : Nat) : Int) = (m : Int) + 1 := by omega
              have HKm := Lib.hid (HLF.out (m + 1) wr (by omega) (by omega) B5.out)
              rw [hcm] at HKm
              have b1 := HM.out (m + 1) (by omega)
              have b2 := HM2.out (m + 1) (by omega)
              have st := HST.out m
              have e1 : (U : Int) * (Tic.lfD (m + 1) : Int) = ((U * Tic.lfD (m + 1) : Nat) : Int) := (Int.natCast_mul _ _).symm
              have e2 : (Tic.lfU (m + 1) : Int) * (D : Int) = ((Tic.lfU (m + 1) * D : Nat) : Int) := (Int.natCast_mul _ _).symm
              generalize U * Tic.lfD (m + 1) = p at *
              generalize Tic.lfU (m + 1) * D = q at *
              generalize Tic.lfD (m + 1) = dm at *
              generalize Tic.lfU (m + 1) = um at *
              have E1 := Lib.hid e1
              have E2 := Lib.hid e2
              have ST := Lib.hid st
              clear e1 e2 st
              have k1 := IntWalk.i64_in (p : Int) (by omega)
              have k2 := IntWalk.i64_in (q : Int) (by omega)
              cases hbb : Tic.bstI (k + 1) m with
              | false =>
                rw [hbb, Bool.false_and] at ST
                go_wp2_with fail
                refine HKm.out.mono ?_; rintro e w6 ⟨rfl, hb⟩
                have R6 := Lib.hid (R5.out.kept hb)
                have B6 := Lib.hid (B5.out.trans (hb.mono B5.out.size))
                clear hb R5 B5
                go_wp2
                go_roundw
                case rel => exact ⟨m + 1, by omega, by go_num, by rw [ST.out], R6, B6⟩
                case measure => simp [intOf]; omega
              | true =>
                rw [hbb, Bool.true_and] at ST
                go_wp2_with fail
                refine HKm.out.mono ?_; rintro e w6 ⟨rfl, hb⟩
                have R6 := Lib.hid (R5.out.kept hb)
                have B6 := Lib.hid (B5.out.trans (hb.mono B5.out.size))
                clear hb R5 B5
                have e1 := E1.out
                have e2 := E2.out
                go_wp2
                go_roundw
                case rel => exact ⟨m + 1, by omega, by go_num, by rw [ST.out], R6, B6⟩
                case measure => simp [intOf]; omega
            · obtain rfl : m = k := by omega
              have HIN := Lib.hid (lisIn_any (.slice a bl c) w1.heap.size BL ((m : Int) + 1) wr R5.out)
              rw [HTK.out, HB1.out] at HIN
              generalize Tic.bstI (m + 1) m = bb at *
              cases bb <;>
              · go_wp2_with fail
                refine HIN.out.mono ?_; rintro e w6 ⟨rfl, rfl⟩
                go_wp2
                go_roundw
                case rel => exact ⟨m + 1, by omega, by go_num, R5, B5⟩
                case measure => simp [intOf]; omega
        · obtain rfl : k = N := by omega
          go_wp2_with fail
          refine (lascends_any BL _ _ _ R4.out HTP.out HTB.out).mono ?_; rintro e w6 ⟨rfl, hb⟩
          have R6 := Lib.hid (R4.out.kept hb)
          have B6 := Lib.hid (B4.out.trans (hb.mono B4.out.size))
          clear hb R4 B4
          obtain ⟨a', c', e, hv2⟩ := R6.out.vw'
          rw [HBL.out] at e hv2
          injection e with e1 _ e2
          subst e1 e2
          obtain ⟨g, rfl, _, hg, hcell⟩ := hv2 (by omega)
          have hc0 := hcell 0 (by omega)
          rw [s2] at hc0
          clear hcell hv2 hvw s2
          go_wp2
          go_ret
          exact ⟨rfl, B6.out⟩
    · have hn2 : n < 1 ∨ 12 < n := by omega
      have HI := Lib.hid (iBest_no n w1 hn2)
      have HS := Lib.hid (fun w => sBest_no n w hn2)
      clear hn hn2
      go_wp2_with fail
      refine HI.out.mono ?_; rintro e w2 ⟨v, rfl, hr, hb⟩
      have R2 := Lib.hid hr
      have B2 := Lib.hid (HB.out.trans (hb.mono HB.out.size))
      clear hr hb HB HI
      go_wp2_with fail
      refine (HS.out _).mono ?_; rintro e w3 ⟨v3, rfl, hr, hb⟩
      have R3 := Lib.hid (R2.out.kept hb)
      have S3 := Lib.hid hr
      have B3 := Lib.hid (B2.out.trans (hb.mono B2.out.size))
      clear hr hb B2 R2
      go_wp2_with fail
      refine (equalInts_yes _ _ _ _ _ _ R3.out S3.out).mono ?_; rintro e w4 ⟨rfl, hb⟩
      have R4 := Lib.hid (R3.out.kept hb)
      have B4 := Lib.hid (B3.out.trans (hb.mono B3.out.size))
      clear hb B3 R3 S3
      obtain ⟨a, c, rfl, _⟩ := R4.out.vw'
      go_wp2_with fail
      refine (HS.out _).mono ?_; rintro e w5 ⟨v5, rfl, hr, hb⟩
      have R5 := Lib.hid (R4.out.kept hb)
      have S5 := Lib.hid hr
      have B5 := Lib.hid (B4.out.trans (hb.mono B4.out.size))
      clear hr hb B4 R4
      go_wp2_with fail
      refine (equalInts_yes _ _ _ _ _ _ R5.out S5.out).mono ?_; rintro e w6 ⟨rfl, hb⟩
      have B6 := B5.out.trans (hb.mono B5.out.size)
      go_wp2_with fail
      go_ret
      exact ⟨rfl, B6⟩
  · clear h
    go_enter Tryd.func8, Tryd.ntmps8
    go_wp2
    go_ret
    exact ⟨rfl, Below.refl _ _⟩
end Go.Proofs.YtlbmjpkkomdhhaaDoor
