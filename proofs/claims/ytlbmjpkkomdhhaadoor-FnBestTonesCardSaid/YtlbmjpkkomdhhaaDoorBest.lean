/-
  Contracts of BestTones, of the program and of the model, and the walk of its exact law.
-/
import Derived.Test.YtlbmjpkkomdhhaaDoorLeft
import Derived.Test.YtlbmjpkkomdhhaaDoorOctaves
import Derived.Test.YtlbmjpkkomdhhaaDoorTones
import Derived.Deep.Cut
namespace Go.Proofs.YtlbmjpkkomdhhaaDoor
open Go.RowKit
set_option linter.unusedVariables false
set_option maxRecDepth 20000

theorem sBest_no (n : Int) (w : World) (h : n < 1 ∨ 12 < n) : Calls Tryd.prog 31 #[.int .i64 n] w (Gives [] w) := by
  go_enter Tryd.func31, Tryd.ntmps31
  go_wp2_with fail
  refine (inRange_no _ _ _ _ h).mono ?_; rintro e w' ⟨rfl, rfl⟩
  go_wp2
  go_ret
  exact ⟨_, rfl, Row.nil _ _, Below.refl _ _⟩
set_option maxHeartbeats 1000000 in
theorem sBest_yes (n : Nat) (w : World) (h1 : 1 ≤ n) (h2 : n ≤ 12) : Calls Tryd.prog 31 #[.int .i64 n] w (Gives (Tic.bstTo n) w) := by
  have HL := Lib.hid (fun k w hk1 hk2 => sleftOf_any k w hk1 hk2)
  go_enter Tryd.func31, Tryd.ntmps31
  go_wp2_with fail
  refine (inRange_yes _ _ _ _ (by omega) (by omega)).mono ?_; rintro e w' ⟨rfl, rfl⟩
  go_wp2
  go_loopw [3, 4] (fun t3 t4 wr => ∃ k : Nat, k ≤ n ∧ t4 = .int .i64 ((k : Int) + 1) ∧ Hid (Row wr w.heap.size t3 (Tic.bstTo k)) ∧ Below w.heap.size w wr) (fun _ t4 _ => n + 1 - (intOf t4).toNat)
  case atStart => exact ⟨0, Nat.zero_le _, rfl, ⟨World.ownsRow_made w #[] 0 (Nat.le_refl _) (by decide) rfl, Nat.zero_le _⟩, (Below.refl _ _).alloc (Nat.le_refl _) _⟩
  case round =>
    obtain ⟨k, hk, rfl, HR, hbel⟩ := hrel
    have hs := hbel.size
    have hlen := Tic.bstTo_len k
    by_cases hlt : k < n
    · have HK := Lib.hid (fun w => HL.out (k + 1) w (by omega) (by omega))
      have hcast : ((k + 1 : Nat) : Int) = (k : Int) + 1 := by omega
      rw [hcast] at HK
      have HM := Lib.hid (fun m (hm : m ≤ 12) => Tic.left_mul (i := k + 1) (j := m) (by omega) hm)
      have HM2 := Lib.hid (fun m (hm : m ≤ 12) => Tic.left_mul (i := m) (j := k + 1) hm (by omega))
      have HST : Hid (∀ m, Tic.bstI (k + 1) (m + 1) = (Tic.bstI (k + 1) m && decide (Tic.lfU (k + 1) * Tic.lfD (m + 1) < Tic.lfU (m + 1) * Tic.lfD (k + 1)))) := Lib.hid (fun m => rfl)
      have HB1 : Hid (Tic.bst (k + 1) = Tic.bstI (k + 1) k) := Lib.hid rfl
      generalize Tic.lfU (k + 1) = U at *
      generalize Tic.lfD (k + 1) = D at *
      go_wp2_with fail
      refine (HK.out _).mono ?_; rintro e w1 ⟨rfl, rfl⟩
      go_wp2
      go_loop [7, 8] (fun t7 t8 => ∃ m : Nat, m ≤ k ∧ t8 = .int .i64 ((m : Int) + 1) ∧ t7 = .bool (Tic.bstI (k + 1) m)) (fun _ t8 => k + 1 - (intOf t8).toNat)
      case atStart => exact ⟨0, Nat.zero_le _, rfl, rfl⟩
      case round =>
        obtain ⟨m, hm, rfl, rfl⟩ := hrel
        by_cases hltm : m < k
        · have HKm := Lib.hid (fun w => HL.out (m + 1) w (by omega) (by omega))
          have hcm : ((m + 1 : Nat) : Int) = (m : Int) + 1 := by omega
          rw [hcm] at HKm
          have b1 := HM.out (m + 1) (by omega)
          have b2 := HM2.out (m + 1) (by omega)
          have st := HST.out m
          have e1 : (U : Int) * (Tic.lfD (m + 1) : Int) = ((U * Tic.lfD (m + 1) : Nat) : Int) := (Int.natCast_mul _ _).symm
          have e2 : (Tic.lfU (m + 1) : Int) * (D : Int) = ((Tic.lfU (m + 1) * D : Nat) : Int) := (Int.natCast_mul _ _).symm
          generalize U * Tic.lfD (m + 1) = p at *
          generalize Tic.lfU (m + 1) * D = q at *
          generalize Tic.lfD (m + 1) = dm at *
          generalize Tic.lfU (m + 1) = um at *
          have E1 := Lib.hid e1
          have E2 := Lib.hid e2
          have ST := Lib.hid st
          clear e1 e2 st
          have w1 := IntWalk.i64_in (p : Int) (by omega)
          have w2 := IntWalk.i64_in (q : Int) (by omega)
          cases hb : Tic.bstI (k + 1) m with
          | false =>
            rw [hb, Bool.false_and] at ST
            go_wp2_with fail
            refine (HKm.out _).mono ?_; rintro e w3 ⟨rfl, rfl⟩
            go_wp2
            go_round
            case rel => exact ⟨m + 1, by omega, by go_num, by rw [ST.out]⟩
            case measure => simp [intOf]; omega
          | true =>
            rw [hb, Bool.true_and] at ST
            go_wp2_with fail
            refine (HKm.out _).mono ?_; rintro e w3 ⟨rfl, rfl⟩
            have e1 := E1.out
            have e2 := E2.out
            go_wp2
            go_round
            case rel => exact ⟨m + 1, by omega, by go_num, by rw [ST.out]⟩
            case measure => simp [intOf]; omega
        · obtain rfl : m = k := by omega
          cases hb : Tic.bstI (m + 1) m with
          | false =>
            have HN := Lib.hid (Tic.bstTo_no (HB1.out.trans hb))
            clear hb
            go_wp2
            go_roundw
            case rel => exact ⟨m + 1, by omega, by go_num, by rw [HN.out]; exact HR, hbel⟩
            case measure => simp [intOf]; omega
          | true =>
            have HN := Lib.hid (Tic.bstTo_yes (HB1.out.trans hb))
            rw [hcast] at HN
            clear hb
            go_wp2_with (at_builtin; refine wpList_append_int rfl _ _ rfl w.heap.size _ (Tic.bstTo m) rfl (HR.out.alloc _) wr.heap.size 1 ((m : Int) + 1) rfl (by go_simp) (by omega) (by simp; omega) ?_)
            intro v' w4 hrow hb4
            have HR4 : Hid (Row w4 w.heap.size v' (Tic.bstTo (m + 1))) := Lib.hid (by rw [HN.out]; exact hrow)
            have HB4 := (hbel.alloc hs _).trans hb4
            clear hrow hb4
            go_wp2
            go_roundw
            case rel => exact ⟨m + 1, by omega, by go_num, HR4, HB4⟩
            case measure => simp [intOf]; omega
    · obtain rfl : k = n := by omega
      go_wp2
      go_ret
      exact ⟨_, rfl, HR.out, hbel⟩
theorem iBest_no (n : Int) (w : World) (h : n < 1 ∨ 12 < n) : Calls Tryd.prog 30 #[.int .i64 n] w (Gives [] w) := by
  go_enter Tryd.func30, Tryd.ntmps30
  go_wp2_with fail
  refine (parts_no _ _ h).mono ?_; rintro e w' ⟨rfl, rfl⟩
  go_wp2
  go_ret
  exact ⟨_, rfl, Row.nil _ _, Below.refl _ _⟩
theorem Rt.alloc {w : World} {g : Nat} {a b c x y : Int} (h : Rt w g a b c x y) (o : Obj) : Rt (w.alloc o) g a b c x y := h.kept ((Below.refl _ _).alloc (Nat.le_refl _) o) h.lt
/-- the better one is stored -/
theorem best_fin {w : World} {k : Nat} {ra rb rc rx ry : Int} (w5 : World) (t3 : Value) (hb : Tic.bst (k + 1) = true) (h1 : Row w5 (w.heap.size + 1) t3 (Tic.bstTo k)) (h2 : Rt w5 w.heap.size ra rb rc rx ry) (h3 : Below w.heap.size w w5) (h4 : w.heap.size + 1 ≤ w5.heap.size) :
    Rt (five w5 w.heap.size (Tic.lfA (k + 1)) (Tic.lfB (k + 1)) 0 (Tic.lfU (k + 1)) (Tic.lfD (k + 1))) w.heap.size (Tic.lfA (Tic.bi (k + 1))) (Tic.lfB (Tic.bi (k + 1))) 0 (Tic.lfU (Tic.bi (k + 1))) (Tic.lfD (Tic.bi (k + 1))) ∧
    Row (five w5 w.heap.size (Tic.lfA (k + 1)) (Tic.lfB (k + 1)) 0 (Tic.lfU (k + 1)) (Tic.lfD (k + 1))) (w.heap.size + 1) t3 (Tic.bstTo k) ∧ Below w.heap.size w (five w5 w.heap.size (Tic.lfA (k + 1)) (Tic.lfB (k + 1)) 0 (Tic.lfU (k + 1)) (Tic.lfD (k + 1))) ∧
    w.heap.size + 1 ≤ (five w5 w.heap.size (Tic.lfA (k + 1)) (Tic.lfB (k + 1)) 0 (Tic.lfU (k + 1)) (Tic.lfD (k + 1))).heap.size := by
  rw [Tic.bi_yes hb]
  refine ⟨five_back h2, ⟨?_, h1.2⟩, five_below h3 (Nat.le_refl _) _ _ _ _ _, by simp [five]; exact h4⟩
  exact ownsRow_setCell_below (ownsRow_setCell_below (ownsRow_setCell_below (ownsRow_setCell_below (ownsRow_setCell_below h1.1 (a := ⟨w.heap.size, 0, none⟩) (by simp) _) (a := ⟨w.heap.size, 1, none⟩) (by simp) _) (a := ⟨w.heap.size, 2, none⟩) (by simp) _) (a := ⟨w.heap.size, 3, none⟩) (by simp) _) (a := ⟨w.heap.size, 4, none⟩) (by simp) _
theorem lfV_eq (k : Nat) : lfV k = .agg #[.int .i64 (Tic.lfA k), .int .i64 (Tic.lfB k), .int .i64 0, .int .i64 (Tic.lfU k : Int), .int .i64 (Tic.lfD k : Int)] := rfl
set_option maxHeartbeats 400000 in
theorem iBest_yes (n : Nat) (w : World) (hp : Primes w) (h1 : 1 ≤ n) (h2 : n ≤ 12) : Calls Tryd.prog 30 #[.int .i64 n] w (Gives (Tic.bstTo n) w) := by
  have HL := Lib.hid (fun k w hw hk1 hk2 => leftOver_any k w hw hk1 hk2)
  have HPn := Lib.hid (fun (W : World) hW => Primes.kept (w := w) (w' := W) hp hW)
  have R0 := Lib.hid (Rt.new w 0 0 0 0 0 56)
  have HB0 := Lib.hid ((Below.refl w.heap.size w).alloc (Nat.le_refl _) (.cells #[.int .i64 0, .int .i64 0, .int .i64 0, .int .i64 0, .int .i64 0] 56))
  have hz : w.heap.size + 1 ≤ (w.alloc (.cells #[.int .i64 0, .int .i64 0, .int .i64 0, .int .i64 0, .int .i64 0] 56)).heap.size := by simp
  go_enter Tryd.func30, Tryd.ntmps30
  go_wp2_with fail
  refine (parts_yes _ _ (by omega) (by omega)).mono ?_; rintro e w' ⟨rfl, rfl⟩
  go_wp2
  generalize w.alloc (.cells #[.int .i64 0, .int .i64 0, .int .i64 0, .int .i64 0, .int .i64 0] 56) = W at *
  go_loopw [3, 5] (fun t3 t5 wr => ∃ k j : Nat, Hid (j = k + 1) ∧ j ≤ n + 1 ∧ 1 ≤ j ∧ t5 = .int .i64 (j : Int) ∧ Hid (Row wr (w.heap.size + 1) t3 (Tic.bstTo k)) ∧
      Hid (∃ a b c x y : Int, Rt wr w.heap.size a b c x y ∧ (0 < k → a = Tic.lfA (Tic.bi k) ∧ b = Tic.lfB (Tic.bi k) ∧ c = 0 ∧ x = (Tic.lfU (Tic.bi k) : Int) ∧ y = (Tic.lfD (Tic.bi k) : Int))) ∧ Hid (Below w.heap.size w wr) ∧ w.heap.size + 1 ≤ wr.heap.size) (fun _ t5 _ => n + 1 - (intOf t5).toNat)
  case atStart => exact ⟨0, 1, rfl, by omega, Nat.le_refl _, rfl, Row.nil _ _, ⟨0, 0, 0, 0, 0, R0.out, fun h => absurd h (by omega)⟩, HB0, hz⟩
  case round =>
    clear R0 HB0 hz
    obtain ⟨k, j, hj, hj1, hj0, rfl, HR, HRT, HB, hsz⟩ := hrel
    have hlen := Tic.bstTo_len k
    have hkk : (Tic.bstTo k).length ≤ 12 := by have := hj.out; omega
    clear hlen
    by_cases hlt : j ≤ n
    · have hcast : ((k + 1 : Nat) : Int) = (j : Int) := by rw [← hj.out]
      have hkj : k < n := by have := hj.out; omega
      have HJ := hj
      have HK := Lib.hid (fun w hw => HL.out (k + 1) w hw (by omega) (by omega))
      rw [hcast, lfV_eq] at HK
      go_wp2_with fail
      refine (HK.out _ (HPn.out _ HB.out)).mono ?_; rintro e w2 ⟨rfl, hb⟩
      have hk2 := (Below.refl w2.heap.size w2).alloc (Nat.le_refl _) (.cells #[.int .i64 (Tic.lfA (k + 1)), .int .i64 (Tic.lfB (k + 1)), .int .i64 0, .int .i64 (Tic.lfU (k + 1) : Int), .int .i64 (Tic.lfD (k + 1) : Int)] 56)
      have hb2 := hb.trans (hk2.mono hb.size)
      have HB2 := Lib.hid (HB.out.trans (hb2.mono HB.out.size))
      have HR2 := Lib.hid (HR.out.kept hb2)
      have HX := Lib.hid (Rt.new w2 (Tic.lfA (k + 1)) (Tic.lfB (k + 1)) 0 (Tic.lfU (k + 1)) (Tic.lfD (k + 1)) 56)
      have hg2 : w.heap.size + 1 ≤ w2.heap.size := by have := hb.size; omega
      have hz2 : w2.heap.size + 1 ≤ (w2.alloc (.cells #[.int .i64 (Tic.lfA (k + 1)), .int .i64 (Tic.lfB (k + 1)), .int .i64 0, .int .i64 (Tic.lfU (k + 1) : Int), .int .i64 (Tic.lfD (k + 1) : Int)] 56)).heap.size := by simp
      obtain ⟨ra, rb, rc, rx, ry, hrt, hre⟩ := HRT.out
      have HRT2 := Lib.hid (hrt.kept hb2 hrt.lt)
      have HRE := Lib.hid hre
      clear hb hk2 hb2 hrt hre HB HR HRT HK
      have HBT : Hid (0 < k → (decide (Tic.lfU (k + 1) * Tic.lfD (Tic.bi k) < Tic.lfU (Tic.bi k) * Tic.lfD (k + 1)) = Tic.bst (k + 1)) ∧ Tic.lfU (k + 1) * Tic.lfD (Tic.bi k) < 1152921504606846976 ∧ Tic.lfU (Tic.bi k) * Tic.lfD (k + 1) < 1152921504606846976) := Lib.hid (fun h => by
        obtain ⟨t1, t2, t3⟩ := Tic.bi_tab ⟨k, by omega⟩ h
        exact ⟨t1, Tic.left_mul (by omega) t3, Tic.left_mul t3 (by omega)⟩)
      have HFIN := Lib.hid (fun hb => best_fin _ u3 hb HR2.out HRT2.out HB2.out (by omega))
      have HNY := Lib.hid (fun hb => Tic.bstTo_yes (k := k) hb)
      have HNN := Lib.hid (fun hb => Tic.bstTo_no (k := k) hb)
      have HBN := Lib.hid (fun hb => Tic.bi_no (k := k) hb)
      rw [hcast] at HNY
      have HB0 : Hid (k = 0 → Tic.bst (k + 1) = true) := Lib.hid (fun h => by rw [h]; rfl)
      obtain ⟨r0, r1, r2, r3, r4, f0, f1, f2, f3, f4⟩ := HRT2.out
      obtain ⟨d0, d1, d2, d3, d4, _⟩ := HX.out
      have HRR : Hid (0 < k → lfV (Tic.bi k) = .agg #[.int .i64 ra, .int .i64 rb, .int .i64 rc, .int .i64 rx, .int .i64 ry]) := Lib.hid (fun h => by obtain ⟨e1, e2, e3, e4, e5⟩ := HRE.out h; rw [e1, e2, e3, e4, e5]; rfl)
      have HAE0 : Hid (Tic.lfA (k + 1) = Tic.lfA (k + 1) ∧ Tic.lfB (k + 1) = Tic.lfB (k + 1) ∧ Tic.lfU (k + 1) = Tic.lfU (k + 1) ∧ Tic.lfD (k + 1) = Tic.lfD (k + 1)) := Lib.hid ⟨rfl, rfl, rfl, rfl⟩
      generalize hA1 : Tic.lfA (k + 1) = A1 at *
      generalize hB1 : Tic.lfB (k + 1) = B1 at *
      generalize hU1 : Tic.lfU (k + 1) = U1 at *
      generalize hD1 : Tic.lfD (k + 1) = D1 at *
      have HAE := Lib.hid (show Tic.lfA (k + 1) = A1 ∧ Tic.lfB (k + 1) = B1 ∧ Tic.lfU (k + 1) = U1 ∧ Tic.lfD (k + 1) = D1 from ⟨hA1, hB1, hU1, hD1⟩)
      clear hA1 hB1 hU1 hD1 HAE0
      clear hkj hcast hj
      by_cases hk0 : k = 0
      · have hq : ((j : Int) == 1) = true := by rw [HJ.out, hk0]; rfl
        have HN := Lib.hid (HNY.out (HB0.out hk0))
        obtain ⟨g1, g2, g3, g4⟩ := HFIN.out (HB0.out hk0)
        have G1 := Lib.hid g1
        have G2 := Lib.hid g2
        have G3 := Lib.hid g3
        clear g1 g2 g3 HR2 HRT2 HB2 HX hk0
        go_upto_region 9 with fail
        generalize w2.alloc (.cells #[.int .i64 A1, .int .i64 B1, .int .i64 0, .int .i64 (U1 : Int), .int .i64 (D1 : Int)] 56) = V at *
        go_upto_region 10 with fail
        clear hq
        unfold five at G1 G2 G3 g4
        have HB5 := Lib.hid g4
        clear g4
        go_wp2_with (at_builtin; refine wpList_append_int rfl _ _ rfl (w.heap.size + 1) _ (Tic.bstTo k) rfl (G2.out.alloc _) V.heap.size 1 (j : Int) rfl (by go_simp) (by omega) (by have := HB5.out; simp; omega) ?_)
        intro v' w4 hrow hb4
        have HR4 : Hid (Row w4 (w.heap.size + 1) v' (Tic.bstTo (k + 1))) := Lib.hid (by rw [HN.out]; exact hrow)
        have HRT4 : Hid (∃ a b c x y : Int, Rt w4 w.heap.size a b c x y ∧ (0 < k + 1 → a = Tic.lfA (Tic.bi (k + 1)) ∧ b = Tic.lfB (Tic.bi (k + 1)) ∧ c = 0 ∧ x = (Tic.lfU (Tic.bi (k + 1)) : Int) ∧ y = (Tic.lfD (Tic.bi (k + 1)) : Int))) :=
          Lib.hid ⟨_, _, _, _, _, (G1.out.alloc _).kept hb4 (by omega), fun _ => ⟨rfl, rfl, rfl, rfl, rfl⟩⟩
        have HB4 : Hid (Below w.heap.size w w4) := Lib.hid ((G3.out.alloc G3.out.size _).trans (hb4.mono (by omega)))
        have hs4 : w.heap.size + 1 ≤ w4.heap.size := by have h5 := HB5.out; have h6 := hb4.size; simp only [World.size_alloc] at h6; omega
        clear hrow hb4 G1 G2 G3
        go_wp2
        go_roundw
        case rel => exact ⟨k + 1, j + 1, Lib.hid (by rw [HJ.out]), by omega, by omega, by go_num, HR4, HRT4, HB4, hs4⟩
        case measure => simp [intOf]; omega
      · have hq : ((j : Int) == 1) = false := by rw [beq_eq_false_iff_ne]; have := HJ.out; omega
        have hkp : 0 < k := by omega
        obtain ⟨rfl, rfl, rfl, rfl, rfl⟩ := HRE.out hkp
        obtain ⟨t1, t2, t3⟩ := HBT.out hkp
        have HCM := Lib.hid (fun w => compare_any A1 B1 0 (Tic.lfA (Tic.bi k)) (Tic.lfB (Tic.bi k)) 0 U1 D1 (Tic.lfU (Tic.bi k)) (Tic.lfD (Tic.bi k)) w t2 t3)
        unfold rtV at HCM
        have HSG : Hid ((cmp3 ((U1 * Tic.lfD (Tic.bi k) : Nat) : Int) ((Tic.lfU (Tic.bi k) * D1 : Nat) : Int) < 0) ↔ Tic.bst (k + 1) = true) := Lib.hid (by
          rw [← t1]
          unfold cmp3
          by_cases hh : U1 * Tic.lfD (Tic.bi k) < Tic.lfU (Tic.bi k) * D1
          · rw [if_pos (by omega), decide_eq_true hh]; simp
          · rw [if_neg (by omega), decide_eq_false hh]; split <;> simp)
        have hcmp : -1 ≤ cmp3 ((U1 * Tic.lfD (Tic.bi k) : Nat) : Int) ((Tic.lfU (Tic.bi k) * D1 : Nat) : Int) ∧ cmp3 ((U1 * Tic.lfD (Tic.bi k) : Nat) : Int) ((Tic.lfU (Tic.bi k) * D1 : Nat) : Int) ≤ 1 := by
          unfold cmp3; split
          · omega
          · split <;> omega
        generalize cmp3 ((U1 * Tic.lfD (Tic.bi k) : Nat) : Int) ((Tic.lfU (Tic.bi k) * D1 : Nat) : Int) = cv at *
        clear t1 t2 t3 hk0
        go_upto_region 9 with fail
        generalize w2.alloc (.cells #[.int .i64 A1, .int .i64 B1, .int .i64 0, .int .i64 (U1 : Int), .int .i64 (D1 : Int)] 56) = U at *
        go_wp2_with fail
        refine (HCM.out _).mono ?_; rintro e V ⟨rfl, hb⟩
        have HR2' := Lib.hid (HR2.out.kept hb)
        have HRT2' := Lib.hid (HRT2.out.kept hb HRT2.out.lt)
        have HX' := Lib.hid (HX.out.kept hb HX.out.lt)
        have HB2' := Lib.hid (HB2.out.trans (hb.mono HB2.out.size))
        have hz2' : w2.heap.size + 1 ≤ V.heap.size := by have := hb.size; omega
        clear HR2 HRT2 HX HB2 hb r0 r1 r2 r3 r4 f0 f1 f2 f3 f4 d0 d1 d2 d3 d4 HFIN
        by_cases hbs : Tic.bst (k + 1) = true
        · have hcv := HSG.out.2 hbs
          have HN := Lib.hid (HNY.out hbs)
          have HFIN := best_fin V u3 hbs HR2'.out HRT2'.out HB2'.out (by omega)
          rw [HAE.out.1, HAE.out.2.1, HAE.out.2.2.1, HAE.out.2.2.2] at HFIN
          obtain ⟨g1, g2, g3, g4⟩ := HFIN
          have G1 := Lib.hid g1
          have G2 := Lib.hid g2
          have G3 := Lib.hid g3
          obtain ⟨r0, r1, r2, r3, r4, f0, f1, f2, f3, f4⟩ := HRT2'.out
          obtain ⟨d0, d1, d2, d3, d4, _⟩ := HX'.out
          clear g1 g2 g3 hbs
          go_upto_region 10 with fail
          unfold five at G1 G2 G3 g4
          have HB5 := Lib.hid g4
          clear g4
          go_wp2_with (at_builtin; refine wpList_append_int rfl _ _ rfl (w.heap.size + 1) _ (Tic.bstTo k) rfl (G2.out.alloc _) V.heap.size 1 (j : Int) rfl (by go_simp) (by omega) (by have := HB5.out; simp; omega) ?_)
          intro v' w4 hrow hb4
          have HR4 : Hid (Row w4 (w.heap.size + 1) v' (Tic.bstTo (k + 1))) := Lib.hid (by rw [HN.out]; exact hrow)
          have HRT4 : Hid (∃ a b c x y : Int, Rt w4 w.heap.size a b c x y ∧ (0 < k + 1 → a = Tic.lfA (Tic.bi (k + 1)) ∧ b = Tic.lfB (Tic.bi (k + 1)) ∧ c = 0 ∧ x = (Tic.lfU (Tic.bi (k + 1)) : Int) ∧ y = (Tic.lfD (Tic.bi (k + 1)) : Int))) :=
            Lib.hid ⟨_, _, _, _, _, (G1.out.alloc _).kept hb4 (by omega), fun _ => ⟨rfl, rfl, rfl, rfl, rfl⟩⟩
          have HB4 : Hid (Below w.heap.size w w4) := Lib.hid ((G3.out.alloc G3.out.size _).trans (hb4.mono (by omega)))
          have hs4 : w.heap.size + 1 ≤ w4.heap.size := by have h5 := HB5.out; have h6 := hb4.size; simp only [World.size_alloc] at h6; omega
          clear hrow hb4 G1 G2 G3
          go_wp2
          go_roundw
          case rel => exact ⟨k + 1, j + 1, Lib.hid (by rw [HJ.out]), by omega, by omega, by go_num, HR4, HRT4, HB4, hs4⟩
          case measure => simp [intOf]; omega
        · have hcv : ¬ cv < 0 := fun hh => hbs (HSG.out.1 hh)
          have hbf : Tic.bst (k + 1) = false := by simpa using hbs
          have HN := Lib.hid (HNN.out hbf)
          have HI := Lib.hid (HBN.out hbf)
          clear hbs hbf
          go_wp2
          go_roundw
          case rel => exact ⟨k + 1, j + 1, Lib.hid (by rw [HJ.out]), by omega, by omega, by go_num, by rw [HN.out]; exact HR2', by rw [HI.out]; exact ⟨_, _, _, _, _, HRT2'.out, fun _ => ⟨rfl, rfl, rfl, rfl, rfl⟩⟩, HB2', by omega⟩
          case measure => simp [intOf]; omega
    · obtain rfl : k = n := by have := hj.out; omega
      go_wp2
      go_ret
      exact ⟨_, rfl, HR.out.mono (by omega), HB.out⟩
end Go.Proofs.YtlbmjpkkomdhhaaDoor
