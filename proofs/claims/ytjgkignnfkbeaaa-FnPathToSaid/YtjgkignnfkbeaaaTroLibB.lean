/-
  The contract of the model's fars.
-/
import Derived.Test.YtjgkignnfkbeaaaTroLib
import Derived.Deep.RegionHeld3
import Derived.Deep.Cut
import Derived.Maps.AppendAt
import Derived.Deep.AppendLies
import Derived.BigQuiet
import Derived.Shelf.Sort.Plain
import Derived.Shelf.Slices.In.SortNone
import Derived.Test.YtjgkignnfkbeaaaTroBase
import Derived.Sort.OwnSortedInts
import Derived.Deep.QuietTactic
import Derived.WalkLawsBesides
import Derived.OpenShut
import Derived.RegionTactic
namespace Go.Proofs.YtjgkignnfkbeaaaTro
open Go.RowKit
set_option linter.unusedVariables false
set_option maxRecDepth 20000

/-- the first k of p numbers are -1, the others 0 -/
def filled (p k : Nat) : List Int := List.replicate k (-1) ++ List.replicate (p - k) 0
theorem filled_len {p k : Nat} (h : k ≤ p) : (filled p k).length = p := by simp [filled]; omega
theorem filled_set {p k : Nat} (h : k < p) : (filled p k).set k (-1) = filled p (k + 1) := by
  unfold filled
  rw [List.set_append_right _ _ (by simp), List.length_replicate, Nat.sub_self, show p - k = (p - (k + 1)) + 1 by omega, List.replicate_succ, List.set_cons_zero, List.replicate_succ', List.append_assoc]
  rfl
theorem Row.off {w w' : World} {B : Nat} {v : Value} {L : List Int} (h : Row w B v L) {g : Nat} (hg : w.grownBy w' (some g)) (hB : ∀ k, v.ownBlock = some k → k ≠ g) : Row w' B v L := by
  refine ⟨h.1.kept hg ?_, h.2⟩
  cases e : v.ownBlock with
  | none => exact .inl rfl
  | some k => right; intro e2; have := hB k e; injection e2 with e2; omega
/-- the tone that a move looks at -/
def mvTo (n x j : Nat) : Nat := if j = 0 then Tic.dn n x else Tic.up n x
theorem mvTo_emod {n x j : Nat} (hx : x < n) (hj : j < 2) : ((x : Int) + (2 * (j : Int) - 1)) % (n : Int) = (mvTo n x j : Int) := by
  have h0 : 0 ≤ ((x : Int) + (2 * (j : Int) - 1)) % (n : Int) := Int.emod_nonneg _ (by omega)
  have : (((x : Int) + (2 * (j : Int) - 1)) % (n : Int)).toNat = mvTo n x j := by
    unfold mvTo
    split
    · rename_i e; subst e
      rw [← Tic.dn_emod hx]; rfl
    · rw [← Tic.up_emod hx, show (2 * (j : Int) - 1) = 1 by omega]
  omega
theorem mvTo_lt {n x j : Nat} (hx : x < n) : mvTo n x j < n := by
  unfold mvTo; split
  · exact Tic.dn_lt hx
  · exact Tic.up_lt hx
/-- one of a row is written -/
theorem Row.write {w : World} {B g m cap : Nat} {L : List Int} (h : Row w B (.slice (some ⟨g, 0, none⟩) m cap) L) (hm : L.length = m) (j : Nat) (x : Int) :
    Row (w.setCell ⟨g, j, none⟩ (.int .i64 x)) B (.slice (some ⟨g, 0, none⟩) m cap) (L.set j x) ∧ w.grownBy (w.setCell ⟨g, j, none⟩ (.int .i64 x)) (some g) := by
  subst hm; exact h.set j x
set_option maxHeartbeats 2000000 in
theorem fars_any (n s : Int) (w : World) (hv : Tic.Valid n s) (h0 : s ≠ 0) :
    Calls Tro.prog 55 #[.int .i64 n, .int .i64 s] w fun e w' => ∃ v O, e = .returned v ∧ Row w' w.heap.size v O ∧ O.length = 2 ^ n.toNat ∧ (∀ S, Lk n.toNat s.toNat S → O.getD S 0 = (dst n.toNat S s.toNat : Int)) ∧ Below w.heap.size w w' := by
  have hlt := hv.lt
  obtain ⟨g1, g2, g3, g4⟩ := hv
  obtain ⟨N, rfl⟩ := Int.eq_ofNat_of_zero_le (show 0 ≤ n by omega)
  obtain ⟨S0, rfl⟩ := Int.eq_ofNat_of_zero_le g3
  rw [Int.toNat_natCast, Int.toNat_natCast]
  rw [Int.toNat_natCast] at g4
  have hp := Tic.pow_le_12 (n := (N : Int)) g2
  rw [Int.toNat_natCast] at hp
  have hpos : 0 < (tonesTo S0 N).length := len_pos (by omega) (by omega)
  have HF := Lib.hid (Bf.first (n := N) (s := S0) (by omega) (by omega) hpos)
  have HST := Lib.hid (fun (O T : List Int) (i x j : Nat) (h : Bf N S0 O T i (2 * x + j)) => h.stay)
  have HNW := Lib.hid (fun (O T : List Int) (i x j : Nat) (h : Bf N S0 O T i (2 * x + j)) => h.new (by omega) (by omega) (by omega) hpos)
  have HAL := Lib.hid (fun (O T : List Int) (m : Nat) (h : Bf N S0 O T T.length m) => h.all (by omega) (by omega) (by omega) hpos)
  have HLK := Lib.hid (fun (S p q : Nat) (h : Lk N S0 S) (hs : Stp N S p q) => h.step (by omega) (by omega) hs)
  generalize hg : 2 ^ N = p at hp g4
  have HP := Lib.hid hg
  have HS0 : Hid ((S0 : Int) < (p : Int)) := Lib.hid g4
  clear hg hlt
  have hSp : S0 < p := by omega
  go_enter Tro.func55, Tro.ntmps55
  go_wp2_with fail
  refine (power_any _ _ (by omega) (by omega)).mono ?_; rintro e w1 ⟨rfl, rfl⟩
  rw [Int.toNat_natCast, HP.out]
  go_wp2_with (at_make; refine wpList_make_zeros rfl _ _ rfl w.heap.size _ _ p rfl rfl ?c1 ?c2 ?c3 (Nat.le_refl _) ?_)
  case c1 => rfl
  case c2 => rfl
  case c3 => omega
  intro w1 hrow hb1
  generalize hgO : w.heap.size = gO at *
  have HGO := Lib.hid hgO
  have hz1 := hb1.size
  have HR0 : Hid (Row w1 gO (.slice (some ⟨gO, 0, none⟩) p p) (filled p 0)) := Lib.hid (by
    have : filled p 0 = zeros p := by simp [filled, zeros]
    rw [this]; exact hrow)
  have HB1 := Lib.hid hb1
  clear hrow hb1 hgO
  go_wp2
  go_loopw [6] (fun t6 wr => ∃ k : Nat, k ≤ p ∧ t6 = .int .i64 k ∧ Hid (Row wr gO (.slice (some ⟨gO, 0, none⟩) p p) (filled p k)) ∧ Hid (Below gO w wr)) (fun t6 _ => p - (intOf t6).toNat)
  case atStart => exact ⟨0, Nat.zero_le _, rfl, HR0, HB1⟩
  case round =>
    obtain ⟨k, hk, rfl, HR, HB⟩ := hrel
    by_cases hkp : k < p
    · have hsh := HR.out.shape
      obtain ⟨_, _, _, hcell, hfz⟩ := hsh
      have d2 := hcell k hkp
      have f2 := hfz k
      obtain ⟨hw1, hw2⟩ := HR.out.write (filled_len hk) k (-1)
      rw [filled_set hkp] at hw1
      have HW := Lib.hid hw1
      have HB2 := Lib.hid (HB.out.setCell (p := ⟨gO, k, none⟩) (Nat.le_refl gO) (.int .i64 (-1)))
      have i1 : (k : Int) < (p : Int) := by omega
      have i0 : (0 : Int) ≤ (k : Int) := by omega
      have k1 := IntWalk.i64_in ((k : Int) + 1) (by omega)
      clear hcell hfz hw1 hw2
      go_wp2
      go_roundw
      case rel => exact ⟨k + 1, by omega, by go_num, HW, HB2⟩
      case measure => simp [intOf]; omega
    · obtain rfl : k = p := by omega
      have hsh := HR.out.shape
      obtain ⟨_, _, _, hcell, hfz⟩ := hsh
      have d2 := hcell S0 hSp
      have f2 := hfz S0
      obtain ⟨hw1, hw2⟩ := HR.out.write (filled_len (Nat.le_refl _)) S0 0
      have HW : Hid (Row (wr.setCell ⟨gO, S0, none⟩ (.int .i64 0)) gO (.slice (some ⟨gO, 0, none⟩) k k) ((List.replicate (2 ^ N) (-1)).set S0 0)) := Lib.hid (by
        have e : filled k k = List.replicate (2 ^ N) (-1) := by unfold filled; rw [HP.out]; simp
        rw [← e]; exact hw1)
      have HB2 := Lib.hid (HB.out.setCell (p := ⟨gO, S0, none⟩) (Nat.le_refl gO) (.int .i64 0))
      have hzr : gO + 1 ≤ wr.heap.size := by have := block_lt_of_cell d2; exact this
      have s0 : (S0 : Int) < (k : Int) := HS0.out
      clear hcell hfz hw1 hw2
      go_upto_region 7 with fail
      have hz2 : (wr.setCell ⟨gO, S0, none⟩ (.int .i64 0)).heap.size = wr.heap.size := by simp
      generalize wr.setCell ⟨gO, S0, none⟩ (.int .i64 0) = W1 at *
      clear d2 f2
      have HTR : Hid (Row (W1.alloc (.cells #[.int .i64 (S0 : Int)] 3)) (gO + 1) (.slice (some ⟨W1.heap.size, 0, none⟩) 1 1) [(S0 : Int)]) := Lib.hid ⟨World.ownsRow_lit W1 #[.int .i64 (S0 : Int)] 1 (by omega) (by decide) rfl, by simp⟩
      have HOR := Lib.hid (HW.out.alloc (.cells #[.int .i64 (S0 : Int)] 3))
      have HB3 := Lib.hid (HB2.out.alloc (show gO ≤ W1.heap.size by omega) (.cells #[.int .i64 (S0 : Int)] 3))
      clear HW HB2 HR HB HB1 HR0
      go_upto_region 8 with fail
      generalize World.alloc _ _ = W2 at *
      rw [hz2] at HTR
      clear hz2 hzr s0 hkp hk
      generalize Value.slice (some ⟨wr.heap.size, 0, none⟩) 1 1 = v7 at *
      go_wp2
      go_loopw [7, 8, 9, 10, 11, 12, 13] (fun t7 t8 t9 t10 t11 t12 t13 wr => ∃ (i : Nat) (O T : List Int), i ≤ T.length ∧ t8 = .int .i64 i ∧ Hid (Bf N S0 O T i 0) ∧ Hid (Row wr gO (.slice (some ⟨gO, 0, none⟩) k k) O) ∧ Hid (Row wr (gO + 1) t7 T) ∧ Hid (Below gO w wr)) (fun _ t8 _ _ _ _ _ _ => k - (intOf t8).toNat)
      case atStart => exact ⟨0, _, _, Nat.zero_le _, rfl, HF, HOR, HTR, HB3⟩
      case round =>
        obtain ⟨i, O, T, hi, rfl, HBF, HO, HT, HBW⟩ := hrel
        clear HF HOR HTR HB3
        have hTl : T.length ≤ k := by have := HBF.out.len; rw [HP.out] at this; exact this
        have hT0 : 0 < T.length := List.length_pos_of_mem HBF.out.start
        obtain ⟨g7, c7, rfl, hg7, hg7l, hcell, _⟩ := HT.out.cases.resolve_left (fun q => by rw [q.2] at hT0; simp at hT0)
        by_cases hlt : i < T.length
        · obtain ⟨NOW, hNL, hNT, hNO⟩ := HBF.out.at hlt
          have HNL := Lib.hid hNL
          have hNk : NOW < k := by have := hNL.1; rw [HP.out] at this; exact this
          have c1 := hcell i hlt
          rw [hNT] at c1
          have i0 : (0 : Int) ≤ (i : Int) := by omega
          have i1 : (i : Int) < (T.length : Int) := by omega
          have k1 := IntWalk.i64_in ((i : Int) + 1) (by omega)
          have HTI := Lib.hid hNT
          have HI := Lib.hid hlt
          obtain ⟨vT, hvT⟩ : ∃ vT, vT = Value.slice (some ⟨g7, 0, none⟩) T.length c7 := ⟨_, rfl⟩
          have HBF0 : Hid (Bf N S0 O T i (2 * 0)) := HBF
          clear hcell hNL hNO hNT HBF
          go_upto_region 12 with fail
          rw [← hvT]
          rw [← hvT] at HT
          clear hvT c1 i1
          go_wp2
          go_loopw [7, 10, 11, 12, 13] (fun t7 t10 t11 t12 t13 wr => ∃ (x : Nat) (O T : List Int), x ≤ N ∧ t10 = .int .i64 x ∧ Hid (i < T.length) ∧ Hid (T.getD i 0 = (NOW : Int)) ∧ Hid (Bf N S0 O T i (2 * x)) ∧ Hid (Row wr gO (.slice (some ⟨gO, 0, none⟩) k k) O) ∧ Hid (Row wr (gO + 1) t7 T) ∧ Hid (Below gO w wr)) (fun _ t10 _ _ _ _ => N - (intOf t10).toNat)
          case atStart => exact ⟨0, O, T, Nat.zero_le _, rfl, HI, HTI, HBF0, HO, HT, HBW⟩
          case round =>
            clear HI HTI HBF0 HO HT HBW hTl
            obtain ⟨x, O, T, hx, rfl, HI, HTI, HBF, HO, HT, HBW⟩ := hrel
            by_cases hxN : x < N
            · have hx1 : (x : Int) < (N : Int) := by omega
              have k2 := IntWalk.i64_in ((x : Int) + 1) (by omega)
              have HBF0 : Hid (Bf N S0 O T i (2 * x + 0)) := HBF
              have HPX : Hid (2 ^ x < k) := Lib.hid (by rw [← HP.out]; exact Nat.pow_lt_pow_right (by decide) hxN)
              go_upto_region 15 with fail
              clear HBF
              go_wp2
              go_loopw [7, 11, 12, 13] (fun t7 t11 t12 t13 wr => ∃ (j : Nat) (O T : List Int), j ≤ 2 ∧ t11 = .int .i64 (2 * (j : Int) - 1) ∧ Hid (i < T.length) ∧ Hid (T.getD i 0 = (NOW : Int)) ∧ Hid (Bf N S0 O T i (2 * x + j)) ∧ Hid (Row wr gO (.slice (some ⟨gO, 0, none⟩) k k) O) ∧ Hid (Row wr (gO + 1) t7 T) ∧ Hid (Below gO w wr)) (fun _ t11 _ _ _ => 2 - ((intOf t11 + 1) / 2).toNat)
              case atStart => exact ⟨0, O, T, Nat.zero_le _, rfl, HI, HTI, HBF0, HO, HT, HBW⟩
              case round =>
                clear HI HTI HBF0 HO HT HBW
                obtain ⟨j, O, T, hj, rfl, HI, HTI, HBF, HO, HT, HBW⟩ := hrel
                by_cases hj2 : j < 2
                · have hd1 : 2 * (j : Int) - 1 ≤ 1 := by omega
                  have HSTAY : Hid ((NOW.testBit x = true → NOW.testBit (mvTo N x j) = false → (Tic.mv1 NOW x (mvTo N x j) : Int) ∈ T) → Bf N S0 O T i (2 * x + (j + 1))) := Lib.hid (by
                    have := HST.out O T i x j HBF.out hxN hj2 HI.out
                    rw [HTI.out, Int.toNat_natCast] at this
                    exact this)
                  have HNEW : Hid (NOW.testBit x = true → NOW.testBit (mvTo N x j) = false → O.getD (Tic.mv1 NOW x (mvTo N x j)) 0 < 0 → Bf N S0 (O.set (Tic.mv1 NOW x (mvTo N x j)) (O.getD NOW 0 + 1)) (T ++ [(Tic.mv1 NOW x (mvTo N x j) : Int)]) i (2 * x + (j + 1))) := Lib.hid (by
                    have := HNW.out O T i x j HBF.out hxN hj2 HI.out
                    rw [HTI.out, Int.toNat_natCast] at this
                    exact this)
                  have HSTP : Hid (NOW.testBit x = true → NOW.testBit (mvTo N x j) = false → Tic.mv1 NOW x (mvTo N x j) < k) := Lib.hid (fun hb hc => by
                    have := (HLK.out NOW x (mvTo N x j) HNL.out (stp_of (j := j) hxN hb hc)).1
                    rw [HP.out] at this; exact this)
                  have HROOM : Hid (∀ Y, Y < k → O.getD Y 0 < 0 → T.length < k) := Lib.hid (fun Y hY hO => by
                    have := HBF.out.room (Y := Y) (by rw [HP.out]; exact hY) hO
                    rw [HP.out] at this; exact this)
                  have HNO : Hid (O.getD NOW 0 = (dst N NOW S0 : Int)) := Lib.hid (by
                    obtain ⟨S, h1, h2, h3⟩ := HBF.out.at HI.out
                    have e := HTI.out
                    rw [h2] at e
                    obtain rfl : S = NOW := by omega
                    exact h3)
                  have HDB : Hid (dst N NOW S0 ≤ 144) := Lib.hid (by
                    have h1 := (prF_bd N (tonesTo NOW N) (tonesTo S0 N) (tonesTo NOW N).length).1
                    have h2 : N * N ≤ 12 * 12 := Nat.mul_le_mul (by omega) (by omega)
                    exact Nat.le_trans h1 h2)
                  have hyN : mvTo N x j < N := mvTo_lt hxN
                  have HRS : Hid (∀ w, Calls Tro.prog 78 #[.int .i64 ((x : Int) + (2 * (j : Int) - 1)), .int .i64 (N : Int)] w fun e w' => e = .returned (.int .i64 (mvTo N x j : Int)) ∧ w = w') := Lib.hid (fun w => by
                    rw [← mvTo_emod hxN hj2]
                    exact rest_any _ _ w (by omega) (by omega) (by omega) (by omega))
                  have HSUM : Hid (NOW.testBit x = true → NOW.testBit (mvTo N x j) = false → (NOW : Int) - ((2 ^ x : Nat) : Int) + ((2 ^ mvTo N x j : Nat) : Int) = (Tic.mv1 NOW x (mvTo N x j) : Int)) := Lib.hid (fun h1 h2 => (mv1_sum h1 h2).symm)
                  have HPY : Hid (2 ^ mvTo N x j < k) := Lib.hid (by rw [← HP.out]; exact Nat.pow_lt_pow_right (by decide) hyN)
                  generalize mvTo N x j = y at *
                  have HPW1 : Hid (∀ w, Calls Tro.prog 65 #[.int .i64 (x : Int)] w fun e w' => e = .returned (.int .i64 ((2 ^ x : Nat) : Int)) ∧ w = w') := Lib.hid (fun w => power_any (x : Int) w (by omega) (by omega))
                  have HPW2 : Hid (∀ w, Calls Tro.prog 65 #[.int .i64 (y : Int)] w fun e w' => e = .returned (.int .i64 ((2 ^ y : Nat) : Int)) ∧ w = w') := Lib.hid (fun w => power_any (y : Int) w (by omega) (by omega))
                  have hpx := HPX.out
                  have hpy := HPY.out
                  clear HPY
                  generalize 2 ^ x = px at *
                  generalize 2 ^ y = py at *
                  have k3 := IntWalk.i64_in ((NOW : Int) - (px : Int)) (by omega)
                  have k4 := IntWalk.i64_in ((NOW : Int) - (px : Int) + (py : Int)) (by omega)
                  have k5 := IntWalk.i64_in ((x : Int) + (2 * (j : Int) - 1)) (by omega)
                  have k6 := IntWalk.i64_in (2 * (j : Int) - 1 + 2) (by omega)
                  cases hbx : NOW.testBit x with
                  | false =>
                    have HB9 := Lib.hid (HSTAY.out (fun q => by rw [hbx] at q; cases q))
                    clear HSTAY HNEW HSTP HROOM HSUM
                    go_wp2_with fail
                    refine (HRS.out _).mono ?_; rintro e w1 ⟨rfl, rfl⟩
                    go_wp2_with fail
                    refine (HPW1.out _).mono ?_; rintro e w1 ⟨rfl, rfl⟩
                    go_wp2_with fail
                    refine (HPW2.out _).mono ?_; rintro e w1 ⟨rfl, rfl⟩
                    go_wp2_with fail
                    refine (bit_no _ _ NOW x _ rfl (by omega) rfl (by omega) hbx).mono ?_; rintro e w1 ⟨rfl, rfl⟩
                    go_wp2
                    go_roundw
                    case rel => exact ⟨j + 1, O, T, by omega, by go_num, HI, HTI, HB9, HO, HT, HBW⟩
                    case measure => simp [intOf]; omega
                  | true =>
                    cases hby : NOW.testBit y with
                    | true =>
                        have HB9 := Lib.hid (HSTAY.out (fun _ q => by rw [hby] at q; cases q))
                        clear HSTAY HNEW HSTP HROOM HSUM
                        go_wp2_with fail
                        refine (HRS.out _).mono ?_; rintro e w1 ⟨rfl, rfl⟩
                        go_wp2_with fail
                        refine (HPW1.out _).mono ?_; rintro e w1 ⟨rfl, rfl⟩
                        go_wp2_with fail
                        refine (HPW2.out _).mono ?_; rintro e w1 ⟨rfl, rfl⟩
                        go_wp2_with fail
                        refine (bit_yes _ _ NOW x _ rfl (by omega) rfl (by omega) hbx).mono ?_; rintro e w1 ⟨rfl, rfl⟩
                        go_wp2_with fail
                        refine (bit_yes _ _ NOW y _ rfl (by omega) rfl (by omega) hby).mono ?_; rintro e w1 ⟨rfl, rfl⟩
                        go_wp2
                        go_roundw
                        case rel => exact ⟨j + 1, O, T, by omega, by go_num, HI, HTI, HB9, HO, HT, HBW⟩
                        case measure => simp [intOf]; omega
                    | false =>
                        have hYk := HSTP.out hbx hby
                        have k7 := k4.trans (HSUM.out hbx hby)
                        have hYI := HSUM.out hbx hby
                        have HSTAY2 : Hid ((Tic.mv1 NOW x y : Int) ∈ T → Bf N S0 O T i (2 * x + (j + 1))) := Lib.hid (fun q => HSTAY.out (fun _ _ => q))
                        have HNEW2 := Lib.hid (HNEW.out hbx hby)
                        have HNEG : Hid (¬ (Tic.mv1 NOW x y : Int) ∈ T → O.getD (Tic.mv1 NOW x y) 0 = -1) := Lib.hid (fun q => HBF.out.neg _ (by rw [HP.out]; exact hYk) q)
                        clear HSTAY HNEW HSTP HSUM
                        generalize Tic.mv1 NOW x y = Y at *
                        obtain ⟨hOl, _, _, hcell, hfz⟩ := HO.out.shape
                        have cY := hcell Y hYk
                        have fY := hfz Y
                        have cN := hcell NOW hNk
                        rw [HNO.out] at cN HNEW2
                        have y0 : (0 : Int) ≤ (Y : Int) := by omega
                        have y1 : (Y : Int) < (k : Int) := by omega
                        have n0 : (0 : Int) ≤ (NOW : Int) := by omega
                        have n1 : (NOW : Int) < (k : Int) := by omega
                        have hdb := HDB.out
                        have HOL := Lib.hid hOl
                        clear hcell hfz HNO HDB hOl
                        generalize dst N NOW S0 = dN at *
                        have k8 := IntWalk.i64_in ((dN : Int) + 1) (by omega)
                        have HCY : Hid (O.getD Y 0 < 0 ∨ ¬ O.getD Y 0 < 0) := Lib.hid (Classical.em _)
                        rcases HCY.out with hneg | hneg
                        · have hTk := HROOM.out Y hYk hneg
                          have HB9 := Lib.hid (HNEW2.out hneg)
                          obtain ⟨hw1, hw2⟩ := HO.out.write HOL.out Y ((dN : Int) + 1)
                          have HW := Lib.hid hw1
                          have HTO : Hid (Row (wr.setCell ⟨gO, Y, none⟩ (.int .i64 ((dN : Int) + 1))) (gO + 1) u7 T) := Lib.hid (HT.out.off hw2 (fun q hq => by have := (HT.out.lt q hq).1; omega))
                          have HBS := Lib.hid (HBW.out.setCell (p := ⟨gO, Y, none⟩) (Nat.le_refl gO) (.int .i64 ((dN : Int) + 1)))
                          have hzr : gO + 1 ≤ wr.heap.size := by have := block_lt_of_cell cY; exact this
                          clear hw1 hw2 HNEW2 HSTAY2 HNEG HROOM HO HT HBW
                          generalize O.getD Y 0 = oY at *
                          go_wp2_with fail
                          refine (HRS.out _).mono ?_; rintro e w1 ⟨rfl, rfl⟩
                          go_wp2_with fail
                          refine (HPW1.out _).mono ?_; rintro e w1 ⟨rfl, rfl⟩
                          go_wp2_with fail
                          refine (HPW2.out _).mono ?_; rintro e w1 ⟨rfl, rfl⟩
                          go_wp2_with fail
                          refine (bit_yes _ _ NOW x _ rfl (by omega) rfl (by omega) hbx).mono ?_; rintro e w1 ⟨rfl, rfl⟩
                          go_wp2_with fail
                          refine (bit_no _ _ NOW y _ rfl (by omega) rfl (by omega) hby).mono ?_; rintro e w1 ⟨rfl, rfl⟩
                          go_upto_region 22 with fail
                          have hz3 : gO + 1 ≤ (wr.setCell ⟨gO, Y, none⟩ (.int .i64 ((dN : Int) + 1))).heap.size := by simpa using hzr
                          clear cY fY cN hzr
                          generalize wr.setCell ⟨gO, Y, none⟩ (.int .i64 ((dN : Int) + 1)) = W3 at *
                          have hT4 : T.length < 4096 := by omega
                          have hTi := HI.out
                          go_wp2_with (at_builtin; refine wpList_append_row rfl _ _ rfl (gO + 1) _ T rfl (HTO.out.alloc _) W3.heap.size 1 Y rfl ?c1 ?c2 ?c3 ?_)
                          case c1 => go_simp
                          case c2 => exact hT4
                          case c3 => simp; omega
                          intro v' w3 hrow hb1 hg1 hv1
                          have HR1 := Lib.hid hrow
                          have HO1 : Hid (Row w3 gO (.slice (some ⟨gO, 0, none⟩) k k) (O.set Y ((dN : Int) + 1))) := Lib.hid ((HW.out.alloc (.cells #[.int .i64 (Y : Int)] 3)).low hb1 (fun q hq => by simp [Value.ownBlock] at hq; omega))
                          have HB4 : Hid (Below gO w w3) := Lib.hid ((HBS.out.alloc (show gO ≤ W3.heap.size by omega) (.cells #[.int .i64 (Y : Int)] 3)).trans (hb1.mono (by omega)))
                          have HTI4 : Hid ((T ++ [(Y : Int)]).getD i 0 = (NOW : Int)) := Lib.hid (by rw [getD_app hTi]; exact HTI.out)
                          have HI4 : Hid (i < (T ++ [(Y : Int)]).length) := Lib.hid (by simp; omega)
                          clear hrow hb1 hg1 hv1 HW HTO HBS HTI HI
                          go_wp2
                          go_roundw
                          case rel => exact ⟨j + 1, _, _, by omega, by go_num, HI4, HTI4, HB9, HO1, HR1, HB4⟩
                          case measure => simp [intOf]; omega
                        · have HB9 := Lib.hid (HSTAY2.out (Classical.byContradiction fun q => hneg (by rw [HNEG.out q]; decide)))
                          clear HNEW2 HSTAY2 HNEG HROOM
                          generalize O.getD Y 0 = oY at *
                          go_wp2_with fail
                          refine (HRS.out _).mono ?_; rintro e w1 ⟨rfl, rfl⟩
                          go_wp2_with fail
                          refine (HPW1.out _).mono ?_; rintro e w1 ⟨rfl, rfl⟩
                          go_wp2_with fail
                          refine (HPW2.out _).mono ?_; rintro e w1 ⟨rfl, rfl⟩
                          go_wp2_with fail
                          refine (bit_yes _ _ NOW x _ rfl (by omega) rfl (by omega) hbx).mono ?_; rintro e w1 ⟨rfl, rfl⟩
                          go_wp2_with fail
                          refine (bit_no _ _ NOW y _ rfl (by omega) rfl (by omega) hby).mono ?_; rintro e w1 ⟨rfl, rfl⟩
                          go_wp2
                          go_roundw
                          case rel => exact ⟨j + 1, O, T, by omega, by go_num, HI, HTI, HB9, HO, HT, HBW⟩
                          case measure => simp [intOf]; omega
                · obtain rfl : j = 2 := by omega
                  have HBN : Hid (Bf N S0 O T i (2 * (x + 1))) := HBF
                  go_wp2
                  go_roundw
                  case rel => exact ⟨x + 1, O, T, by omega, by go_num, HI, HTI, HBN, HO, HT, HBW⟩
                  case measure => simp [intOf]; omega
            · obtain rfl : x = N := by omega
              have hTl := HBF.out.len
              rw [HP.out] at hTl
              have HBN := Lib.hid (HBF.out.next HI.out)
              have hI := HI.out
              go_wp2
              go_roundw
              case rel => exact ⟨i + 1, O, T, by omega, by go_num, HBN, HO, HT, HBW⟩
              case measure => simp [intOf]; omega
        · obtain rfl : i = T.length := by omega
          have hAL := fun S hS => HAL.out O T 0 HBF.out (dst N S S0) S hS rfl
          go_wp2
          go_ret
          exact ⟨_, O, rfl, by rw [HGO.out]; exact HO.out, by rw [HBF.out.olen]; exact HP.out, hAL, by rw [HGO.out]; exact HBW.out⟩
end Go.Proofs.YtjgkignnfkbeaaaTro

/-
  Lists of choices in memory, two cells each: read, appended to at a step of a region that draws its order.
-/
namespace Go.Proofs.YtjgkignnfkbeaaaTro
open Go.RowKit
set_option linter.unusedVariables false
set_option maxRecDepth 20000

/-- a choice as a row of cells -/
def chR (p : Int × Int) : List Value := [.int .i64 p.1, .int .i64 p.2]
theorem chFlat_len : ∀ M : List (Int × Int), (M.map chR).flatten.length = M.length * 2
  | [] => rfl
  | m :: M => by
    rw [List.map_cons, List.flatten_cons, List.length_append, chFlat_len M, List.length_cons, Nat.add_mul]
    show 2 + _ = _
    omega
theorem chFlat_at : ∀ (M : List (Int × Int)) (i j : Nat), i < M.length → j < 2 → (M.map chR).flatten[i * 2 + j]? = (chR (M.getD i (0, 0)))[j]?
  | [], i, j, hi, _ => by simp at hi
  | m :: M, 0, j, _, hj => by
    rw [List.map_cons, List.flatten_cons, Nat.zero_mul, Nat.zero_add, List.getElem?_append_left (by show j < 2; exact hj)]
    simp
  | m :: M, i + 1, j, hi, hj => by
    have := chFlat_at M i j (by simpa using hi) hj
    rw [List.map_cons, List.flatten_cons, List.getElem?_append_right (by show 2 ≤ _; omega), show (i + 1) * 2 + j - (chR m).length = i * 2 + j by show _ - 2 = _; omega, this]
    simp
/-- a list of choices, two cells each -/
def Chs (w : World) (B : Nat) (v : Value) (M : List (Int × Int)) : Prop := w.ownsRow B 49 2 v M.length (M.map chR).flatten ∧ M.length ≤ 64
theorem Chs.nil (w : World) (B : Nat) : Chs w B (.slice none 0 0) [] := ⟨World.ownsRow_nil _ _ _ _, Nat.zero_le _⟩
theorem Chs.kept {w w' : World} {B : Nat} {v : Value} {M : List (Int × Int)} (h : Chs w B v M) (hb : Below w.heap.size w w') : Chs w' B v M :=
  ⟨h.1.kept (row := none) ⟨hb.os, hb.tape, hb.output, hb.size, fun k hk _ => hb.block k hk⟩ (by cases v.ownBlock <;> simp), h.2⟩
theorem Chs.mono {w : World} {B B' : Nat} {v : Value} {M : List (Int × Int)} (h : Chs w B v M) (hB : B' ≤ B) : Chs w B' v M := by
  obtain ⟨⟨h31, h3⟩, r⟩ := h
  refine ⟨⟨h31, ?_⟩, r⟩
  rcases h3 with h3 | ⟨g, cap, cur, e, hg, r⟩
  · exact .inl h3
  · exact .inr ⟨g, cap, cur, e, by omega, r⟩
theorem Chs.lt {w : World} {B : Nat} {v : Value} {M : List (Int × Int)} (h : Chs w B v M) : ∀ q, v.ownBlock = some q → B ≤ q ∧ q < w.heap.size := fun q hq => by
  rcases h.1.2 with ⟨e, _⟩ | ⟨g, cap, cur, e, hg, hb, _⟩
  · subst e; cases hq
  · subst e; simp [Value.ownBlock] at hq; subst hq; exact ⟨hg, (Array.getElem?_eq_some_iff.1 hb).1⟩
theorem Chs.cases {w : World} {B : Nat} {v : Value} {M : List (Int × Int)} (h : Chs w B v M) (h0 : 0 < M.length) :
    ∃ g cap, v = .slice (some ⟨g, 0, none⟩) M.length cap ∧ B ≤ g ∧ g < w.heap.size ∧ M.length ≤ cap ∧ ∀ i, i < M.length → w.cell? ⟨g, i * 2, none⟩ = some (.int .i64 (M.getD i (0, 0)).1) ∧ w.cell? ⟨g, i * 2 + 1, none⟩ = some (.int .i64 (M.getD i (0, 0)).2) := by
  have h1 := h.1
  rcases h1.2 with ⟨_, e⟩ | ⟨g, cap, cur, e, hg, hb, r1, r2, r3, r4⟩
  · omega
  · subst e
    refine ⟨g, cap, rfl, hg, (Array.getElem?_eq_some_iff.1 hb).1, r1, fun i hi => ⟨?_, ?_⟩⟩
    · have := h1.cellAt (i * 2 + 0) (by omega)
      rw [chFlat_at M i 0 hi (by decide)] at this
      exact this
    · have := h1.cellAt (i * 2 + 1) (by omega)
      rw [chFlat_at M i 1 hi (by decide)] at this
      exact this
theorem info_choice : (Tro.prog.info? 49).map (fun i => (i.zero, i.size, i.bytes)) = some (some (.agg #[.int .i64 0, .int .i64 0]), 2, 16) := by kernel_rfl
theorem info_partsC {o : Option TypeInfo} {z : Option Value} {a b : Nat} (h : o.map (fun i => (i.zero, i.size, i.bytes)) = some (z, a, b)) : ∃ i, o = some i ∧ i.zero = z ∧ i.size = a ∧ i.bytes = b := by
  cases o with
  | none => cases h
  | some i => simp at h; exact ⟨i, rfl, h.1, h.2.1, h.2.2⟩
/-- a choice is appended, at a step of a region that draws its order; B: the first block that the list may lie in, V: the world ahead of the region -/
theorem step_app_ch {ops : Array Oper} {o : Oper} {a : Act} {w : World} {K : Act → World → Prop} {Q : Exit → Act → World → Prop} {E : Prop} (hgd : o.guard = none) (s x : Operand)
    (ho : o.op = .call { callee := .builtin .append, args := #[s, x], argTypes := #[57, 57] })
    (B : Nat) (V : World) (v : Value) (M : List (Int × Int)) (hs : a.eval s = v) (g c : Nat) (p : Int × Int) (hx : a.eval x = .slice (some ⟨g, 0, none⟩) 1 c)
    (hk : Below B V w) (hr : Chs w B v M) (hc : w.cell? ⟨g, 0, none⟩ = some (.int .i64 p.1) ∧ w.cell? ⟨g, 1, none⟩ = some (.int .i64 p.2)) (hM : M.length < 64) (hBw : B ≤ w.heap.size)
    (h : ∀ v' w', Chs w' B v' (M ++ [p]) → Below B V w' → (∀ b k u, v.ownBlock ≠ some b → w.cell? ⟨b, k, none⟩ = some u → w'.cell? ⟨b, k, none⟩ = some u) → K (a.put o.dst v') w') :
    if Region.wanted o (yielded ops a.tmps) = true then Oper.wp Tro.prog o a w K Q else E := by
  have hw : Region.wanted o (yielded ops a.tmps) = true := by simp [Region.wanted, hgd]
  rw [if_pos hw]
  obtain ⟨i0, hi, hz0, hz1, hz2⟩ := info_partsC info_choice
  obtain ⟨v', w', hr', h2, h3, h4, h5'⟩ := run_append_own_at (P := Tro.prog) w B 57 o.type 49 i0 _ 2 16 Tro.underlying57 hi hz0 hz1 hz2 rfl (by decide) v M.length _ hr.1 ⟨g, 0, none⟩ 1 c (chR p)
    rfl (fun j u hj => by
      have e : (⟨g, 0, none⟩ : Addr).add j = ⟨g, j, none⟩ := by unfold Addr.add; split <;> simp_all
      rw [e]
      match j, hj with
      | 0, hj => simp [chR] at hj; subst hj; exact hc.1
      | 1, hj => simp [chR] at hj; subst hj; exact hc.2) (by intro u hu; simp [chR] at hu; rcases hu with rfl | rfl <;> rfl) (by unfold maxLen; omega) (by omega) hBw
  unfold Oper.wp execOp
  simp only [ho, resolve, invoke, builtin, Sem.run_bind, Sem.run_pure, Result.andThen_ok, List.map_toArray, List.map_cons, List.map_nil, hs, hx, hr']
  refine h v' w' ⟨?_, by simp; omega⟩ (hk.grown h3 hBw (fun q hq => (hr.lt q hq).1)) (fun b k u hb hc => (h3.cell_far _ (block_lt_of_cell hc) (fun e => hb e.symm)).trans hc)
  rw [List.length_append, List.map_append, List.flatten_append]
  simpa using h2
/-- a choice is appended -/
theorem wpList_append_ch {ops : Array Oper} {rest : List Oper} {o : Oper} {a : Act} {Q : Exit → Act → World → Prop} {w : World} (hgd : o.guard = none) (s x : Operand)
    (ho : o.op = .call { callee := .builtin .append, args := #[s, x], argTypes := #[57, 57] })
    (B : Nat) (v : Value) (M : List (Int × Int)) (hs : a.eval s = v) (hr : Chs w B v M) (g c : Nat) (p : Int × Int) (hx : a.eval x = .slice (some ⟨g, 0, none⟩) 1 c)
    (hc : w.cell? ⟨g, 0, none⟩ = some (.int .i64 p.1) ∧ w.cell? ⟨g, 1, none⟩ = some (.int .i64 p.2)) (hM : M.length < 64) (hB : B ≤ w.heap.size)
    (h : ∀ v' w', Chs w' B v' (M ++ [p]) → Below B w w' → wpList Tro.prog ops Q rest (a.put o.dst v') w') : wpList Tro.prog ops Q (o :: rest) a w := by
  obtain ⟨i0, hi, hz0, hz1, hz2⟩ := info_partsC info_choice
  refine wpList_append_own w hgd s x 57 ho B 49 i0 _ 2 16 Tro.underlying57 hi hz0 hz1 hz2 rfl (by decide) v M.length _ hs hr.1 ⟨g, 0, none⟩ 1 c (chR p) hx rfl ?_ ?_ ?_ ?_ hB ?_
  · intro j u hj
    have e : (⟨g, 0, none⟩ : Addr).add j = ⟨g, j, none⟩ := by unfold Addr.add; split <;> simp_all
    rw [e]
    match j, hj with
    | 0, hj => simp [chR] at hj; subst hj; exact hc.1
    | 1, hj => simp [chR] at hj; subst hj; exact hc.2
  · intro u hu; simp [chR] at hu; rcases hu with rfl | rfl <;> rfl
  · unfold maxLen; omega
  · omega
  · intro v' w' hown hg _
    refine h v' w' ⟨?_, by simp; omega⟩ ((Below.refl B w).grown hg hB fun k hk => (hr.lt k hk).1)
    rw [List.length_append, List.map_append, List.flatten_append]
    simpa using hown
theorem far_of (a b : Int) (w : World) : (Instr.field 49 (.agg #[.int .i64 a, .int .i64 b]) 1).run Tro.prog w = .ok (.int .i64 b) w := by kernel_rfl
theorem number_of (a b : Int) (w : World) : (Instr.field 49 (.agg #[.int .i64 a, .int .i64 b]) 0).run Tro.prog w = .ok (.int .i64 a) w := by kernel_rfl
/-- a block of two numbers just made -/
theorem ch_new (w : World) (x y : Int) (t : TypeId) (g : Nat) (hg : g = w.heap.size) : (w.alloc (.cells #[.int .i64 x, .int .i64 y] t)).cell? ⟨g, 0, none⟩ = some (.int .i64 x) ∧ (w.alloc (.cells #[.int .i64 x, .int .i64 y] t)).cell? ⟨g, 1, none⟩ = some (.int .i64 y) := by
  constructor <;> (rw [World.cell?_alloc_at _ _ _ _ hg]; rfl)
theorem ch_froz (w : World) (x y : Int) (t : TypeId) (g : Nat) (hg : g = w.heap.size) : (w.alloc (.cells #[.int .i64 x, .int .i64 y] t)).frozen? ⟨g, 0, none⟩ = false ∧ (w.alloc (.cells #[.int .i64 x, .int .i64 y] t)).frozen? ⟨g, 1, none⟩ = false := by
  subst hg
  constructor <;> go_simp
/-- what a call behind an alloc leaves -/
theorem after_alloc {wr w1 : World} {t : TypeId} (hb : Below (wr.alloc (.cells #[.int .i64 0, .int .i64 0] t)).heap.size (wr.alloc (.cells #[.int .i64 0, .int .i64 0] t)) w1) :
    Hid (Below wr.heap.size wr w1) ∧ w1.cell? ⟨wr.heap.size, 0, none⟩ = some (.int .i64 0) ∧ w1.cell? ⟨wr.heap.size, 1, none⟩ = some (.int .i64 0) ∧ w1.frozen? ⟨wr.heap.size, 0, none⟩ = false ∧ w1.frozen? ⟨wr.heap.size, 1, none⟩ = false := by
  have h0 := (Below.refl wr.heap.size wr).alloc (Nat.le_refl _) (.cells #[.int .i64 0, .int .i64 0] t)
  exact ⟨h0.trans (hb.mono h0.size), (hb.cell (p := ⟨wr.heap.size, 0, none⟩) (by simp)).trans (ch_new wr 0 0 t _ rfl).1, (hb.cell (p := ⟨wr.heap.size, 1, none⟩) (by simp)).trans (ch_new wr 0 0 t _ rfl).2, (hb.frozen (p := ⟨wr.heap.size, 0, none⟩) (by simp)).trans (ch_froz wr 0 0 t _ rfl).1, (hb.frozen (p := ⟨wr.heap.size, 1, none⟩) (by simp)).trans (ch_froz wr 0 0 t _ rfl).2⟩
theorem after_alloc1 {wr w1 : World} {t : TypeId} (hb : Below (wr.alloc (.cells #[.int .i64 0, .int .i64 0] t)).drew.heap.size (wr.alloc (.cells #[.int .i64 0, .int .i64 0] t)).drew w1) :
    Hid (Below wr.heap.size wr w1) ∧ w1.cell? ⟨wr.heap.size, 0, none⟩ = some (.int .i64 0) ∧ w1.cell? ⟨wr.heap.size, 1, none⟩ = some (.int .i64 0) ∧ w1.frozen? ⟨wr.heap.size, 0, none⟩ = false ∧ w1.frozen? ⟨wr.heap.size, 1, none⟩ = false :=
  after_alloc (t := t) (Below.trans (Below.refl _ _).drew hb)
theorem ch_put {w : World} {g : Nat} {u0 u1 : Value} (h0 : w.cell? ⟨g, 0, none⟩ = some u0) (h1 : w.cell? ⟨g, 1, none⟩ = some u1) (x y : Int) :
    ((w.setCell ⟨g, 0, none⟩ (.int .i64 x)).setCell ⟨g, 1, none⟩ (.int .i64 y)).cell? ⟨g, 0, none⟩ = some (.int .i64 x) ∧ ((w.setCell ⟨g, 0, none⟩ (.int .i64 x)).setCell ⟨g, 1, none⟩ (.int .i64 y)).cell? ⟨g, 1, none⟩ = some (.int .i64 y) := by
  have n01 : (⟨g, 1, none⟩ : Addr) ≠ ⟨g, 0, none⟩ := by simp
  have n10 : (⟨g, 0, none⟩ : Addr) ≠ ⟨g, 1, none⟩ := by simp
  exact ⟨by rw [World.cell?_setCell_other _ _ _ _ n01, World.cell?_setCell_same _ _ _ h0], World.cell?_setCell_same _ _ _ ((World.cell?_setCell_other _ _ _ _ n10).trans h1)⟩
end Go.Proofs.YtjgkignnfkbeaaaTro

/-
  StepsTo of the model and of the program, where a sequential body stands for nearestTo, and the walk of FnExactStepsTo.
-/
namespace Go.Proofs.YtjgkignnfkbeaaaTro
open Go.RowKit
set_option linter.unusedVariables false
set_option maxRecDepth 20000

/-- a number -/
def Gives1 (a : Int) (w : World) (e : Ending) (w' : World) : Prop := e = .returned (.int .i64 a) ∧ Below w.heap.size w w'
/-- how many steps -/
def stP (n A B : Int) : Int := (dst n.toNat A.toNat B.toNat : Int)
theorem Voices.lens {n A B : Int} (h : Voices n A B) : (tonesTo A.toNat n.toNat).length = (tonesTo B.toNat n.toNat).length := by rw [← wt_len h.1, ← wt_len h.2.1]; exact h.2.2.2
theorem valid_lt {n A : Int} (h : Tic.Valid n A) : A.toNat < 2 ^ n.toNat := by
  obtain ⟨h1, h2, h3, h4⟩ := h
  omega
theorem Voices.pos {n A B : Int} (h : Voices n A B) : 0 < (tonesTo A.toNat n.toNat).length := len_pos (valid_lt h.1) (by have := h.1.2.2.1; have := h.2.2.1; omega)
theorem Voices.lk {n A B : Int} (h : Voices n A B) : Lk n.toNat A.toNat B.toNat := ⟨valid_lt h.2.1, h.lens.symm⟩
theorem Voices.ne0 {n A B : Int} (h : Voices n A B) : B ≠ 0 := fun e => by
  have h1 := h.lens
  have h2 := h.pos
  subst e
  have : ∀ k, (tonesTo 0 k).length = 0 := fun k => by
    induction k with
    | zero => rfl
    | succ k ih => rw [tonesTo_no (Nat.zero_testBit k)]; exact ih
  rw [show (0 : Int).toNat = 0 from rfl, this] at h1
  omega
theorem Voices.symm {n A B : Int} (h : Voices n A B) : Voices n B A := ⟨h.2.1, h.1, h.ne0, h.2.2.2.symm⟩
theorem iStepsTo_no (n A B : Int) (w : World) (h : ¬ Voices n A B) : Calls Tro.prog 26 #[.int .i64 n, .int .i64 A, .int .i64 B] w (Gives1 (-1) w) := by
  have HV : Hid (∀ w, Calls Tro.prog 41 #[.int .i64 n, .int .i64 A, .int .i64 B] w fun e w' => e = .returned (.bool false) ∧ Below w.heap.size w w') := Lib.hid (fun w => by have := validVoices_any n A B w; rw [vv_no h] at this; exact this)
  go_enter Tro.func26, Tro.ntmps26
  go_wp2_with fail
  refine (HV.out _).mono ?_; rintro e w1 ⟨rfl, hb1⟩
  go_wp2_with fail
  go_ret
  exact ⟨rfl, hb1⟩
theorem iStepsTo_yes (n A B : Int) (w : World) (h : Voices n A B) : Calls Tro.prog 26 #[.int .i64 n, .int .i64 A, .int .i64 B] w (Gives1 (stP n A B) w) := by
  have HV : Hid (∀ w, Calls Tro.prog 41 #[.int .i64 n, .int .i64 A, .int .i64 B] w fun e w' => e = .returned (.bool true) ∧ Below w.heap.size w w') := Lib.hid (fun w => by have := validVoices_any n A B w; rw [vv_yes h] at this; exact this)
  have HP : Hid (∀ w, Calls Tro.prog 42 #[.agg #[.int .i64 n, .int .i64 A], .agg #[.int .i64 n, .int .i64 B]] w fun e w' => ∃ p : Nat, e = .returned (.agg #[.int .i64 (p : Int), .int .i64 (stP n A B)]) ∧ Below w.heap.size w w') := Lib.hid (fun w => (stub_any n A B w h).mono (fun e w' ⟨h1, h2⟩ => ⟨_, h1, h2⟩))
  generalize stP n A B = d at *
  go_enter Tro.func26, Tro.ntmps26
  go_wp2_with fail
  refine (HV.out _).mono ?_; rintro e w1 ⟨rfl, hb1⟩
  have HB1 := Lib.hid hb1
  clear hb1
  go_wp2_with fail
  refine (HP.out _).mono ?_; rintro e w2 ⟨p, rfl, hb2⟩
  have HB2 := Lib.hid (HB1.out.trans (hb2.mono HB1.out.size))
  have hfl := far_of (p : Int) d
  clear hb2
  go_wp2
  go_ret
  exact ⟨rfl, HB2.out⟩
theorem sStepsTo_no (n A B : Int) (w : World) (h : ¬ Voices n A B) : Calls Tro.prog 27 #[.int .i64 n, .int .i64 A, .int .i64 B] w (Gives1 (-1) w) := by
  have HV : Hid (∀ w, Calls Tro.prog 44 #[.int .i64 n, .int .i64 A, .int .i64 B] w fun e w' => e = .returned (.bool false) ∧ w = w') := Lib.hid (fun w => by have := validPair_any n A B w; rw [vv_no h] at this; exact this)
  go_enter Tro.func27, Tro.ntmps27
  go_wp2_with fail
  refine (HV.out _).mono ?_; rintro e w1 ⟨rfl, rfl⟩
  go_wp2_with fail
  go_ret
  exact ⟨rfl, Below.refl _ _⟩
theorem sStepsTo_yes (n A B : Int) (w : World) (h : Voices n A B) : Calls Tro.prog 27 #[.int .i64 n, .int .i64 A, .int .i64 B] w (Gives1 (stP n A B) w) := by
  have HV : Hid (∀ w, Calls Tro.prog 44 #[.int .i64 n, .int .i64 A, .int .i64 B] w fun e w' => e = .returned (.bool true) ∧ w = w') := Lib.hid (fun w => by have := validPair_any n A B w; rw [vv_yes h] at this; exact this)
  have HF : Hid (∀ w, Calls Tro.prog 55 #[.int .i64 n, .int .i64 A] w fun e w' => ∃ v O, e = .returned v ∧ Row w' w.heap.size v O ∧ O.length = 2 ^ n.toNat ∧ O.getD B.toNat 0 = stP n A B ∧ Below w.heap.size w w') := Lib.hid (fun w => (fars_any n A w h.1 h.2.2.1).mono (fun e w' ⟨v, O, h1, h2, h3, h4, h5⟩ => ⟨v, O, h1, h2, h3, by
    rw [h4 _ h.lk]
    unfold stP
    rw [dst_symm (by have := h.1.2.1; omega) (by have := h.1.1; omega) h.lk.2 h.pos], h5⟩))
  have hBl := valid_lt h.2.1
  have hB0 := h.2.1.2.2.1
  obtain ⟨S, rfl⟩ := Int.eq_ofNat_of_zero_le hB0
  rw [Int.toNat_natCast] at *
  generalize stP n A (S : Int) = d at *
  generalize 2 ^ n.toNat = p at *
  clear h
  go_enter Tro.func27, Tro.ntmps27
  go_wp2_with fail
  refine (HV.out _).mono ?_; rintro e w1 ⟨rfl, rfl⟩
  go_wp2_with fail
  refine (HF.out _).mono ?_; rintro e w2 ⟨v, O, rfl, hr, hl, ho, hb⟩
  obtain ⟨g, c, rfl, hg, hgl, hcell, _⟩ := hr.cases.resolve_left (fun q => by rw [q.2] at hl; simp at hl; omega)
  have c0 := hcell S (by omega)
  rw [ho] at c0
  rw [hl]
  have s0 : (0 : Int) ≤ (S : Int) := by omega
  have s1 : (S : Int) < (p : Int) := by omega
  have HB := Lib.hid hb
  clear hcell hr hl ho hb
  go_wp2
  go_ret
  exact ⟨rfl, HB.out⟩
theorem FnExactStepsTo_core (a0 a1 a2 d : Int) (hs : ∀ w, Calls Tro.prog 27 #[.int .i64 a0, .int .i64 a1, .int .i64 a2] w (Gives1 d w)) (hi : ∀ w, Calls Tro.prog 26 #[.int .i64 a0, .int .i64 a1, .int .i64 a2] w (Gives1 d w)) (w : World) :
    Calls Tro.prog 9 #[.int .i64 a0, .int .i64 a1, .int .i64 a2] w fun e w' => e = .returned (.bool true) ∧ Below w.heap.size w w' := by
  have HS := Lib.hid hs
  have HI := Lib.hid hi
  clear hs hi
  go_enter Tro.func9, Tro.ntmps9
  go_wp2_with fail
  refine (HS.out _).mono ?_; rintro e w1 ⟨rfl, b1⟩
  have B1 := Lib.hid b1
  have hz := b1.size
  clear b1
  go_wp2_with fail
  refine (HI.out _).mono ?_; rintro e w2 ⟨rfl, b2⟩
  have B2 := Lib.hid (B1.out.trans (b2.mono hz))
  clear b2
  go_wp2_with fail
  go_ret
  exact ⟨rfl, B2.out⟩
theorem FnExactStepsTo_walk (a0 a1 a2 : Int) (w : World) :
    Calls Tro.prog 9 #[.int .i64 a0, .int .i64 a1, .int .i64 a2] w fun e w' => e = .returned (.bool true) ∧ Below w.heap.size w w' := by
  rcases Classical.em (Voices a0 a1 a2) with h | h
  · exact FnExactStepsTo_core _ _ _ _ (fun w => sStepsTo_yes _ _ _ w h) (fun w => iStepsTo_yes _ _ _ w h) w
  · exact FnExactStepsTo_core _ _ _ _ (fun w => sStepsTo_no _ _ _ w h) (fun w => iStepsTo_no _ _ _ w h) w
end Go.Proofs.YtjgkignnfkbeaaaTro

/-
  The shelf's contracts of slices.Sort at whole numbers, laid at this program.
-/
namespace Go.Proofs
open Go.Shelf
def Tro.lays189_ren : Go.Shelf.Ren := ⟨fun | 189 => 76 | 125 => 86 | 257 => 85 | 128 => 99 | 129 => 100 | 294 => 90 | 295 => 91 | 296 => 92 | 297 => 93 | 298 => 94 | 299 => 95 | 216 => 96 | 300 => 97 | 301 => 98 | 328 => 101 | 329 => 102 | 330 => 103 | 331 => 104 | 332 => 105 | 215 => 106 | 343 => 107 | n => n, fun | 28 => 25 | 3 => 3 | 46 => 72 | 0 => 0 | 51 => 76 | 53 => 78 | 4 => 4 | 183 => 81 | 182 => 80 | 131 => 85 | 5 => 5 | 9 => 9 | 218 => 87 | 222 => 91 | 228 => 93 | 229 => 33 | n => n, fun | n => n⟩
theorem Tro.lays189 : Go.Proofs.Lays.n189 Tro.prog Tro.lays189_ren := {
  mixed := by kernel_rfl
  f125 := Tro.func86.trans (congrArg some (by kernel_rfl))
  f128 := Tro.func99.trans (congrArg some (by kernel_rfl))
  f129 := Tro.func100.trans (congrArg some (by kernel_rfl))
  f189 := Tro.func76.trans (congrArg some (by kernel_rfl))
  f215 := Tro.func106.trans (congrArg some (by kernel_rfl))
  f216 := Tro.func96.trans (congrArg some (by kernel_rfl))
  f257 := Tro.func85.trans (congrArg some (by kernel_rfl))
  f294 := Tro.func90.trans (congrArg some (by kernel_rfl))
  f295 := Tro.func91.trans (congrArg some (by kernel_rfl))
  f296 := Tro.func92.trans (congrArg some (by kernel_rfl))
  f297 := Tro.func93.trans (congrArg some (by kernel_rfl))
  f298 := Tro.func94.trans (congrArg some (by kernel_rfl))
  f299 := Tro.func95.trans (congrArg some (by kernel_rfl))
  f300 := Tro.func97.trans (congrArg some (by kernel_rfl))
  f301 := Tro.func98.trans (congrArg some (by kernel_rfl))
  f328 := Tro.func101.trans (congrArg some (by kernel_rfl))
  f329 := Tro.func102.trans (congrArg some (by kernel_rfl))
  f330 := Tro.func103.trans (congrArg some (by kernel_rfl))
  f331 := Tro.func104.trans (congrArg some (by kernel_rfl))
  f332 := Tro.func105.trans (congrArg some (by kernel_rfl))
  f343 := Tro.func107.trans (congrArg some (by kernel_rfl))
  t0 := Tro.underlying0
  a0 := Tro.isAgg0
  z0 := Tro.sizeOf0
  v0 := Tro.zeroValue0
  t3 := Tro.underlying3
  a3 := Tro.isAgg3
  z3 := Tro.sizeOf3
  v3 := Tro.zeroValue3
  t4 := Tro.underlying4
  a4 := Tro.isAgg4
  z4 := Tro.sizeOf4
  v4 := Tro.zeroValue4
  t5 := Tro.underlying5
  a5 := Tro.isAgg5
  z5 := Tro.sizeOf5
  v5 := Tro.zeroValue5
  t9 := Tro.underlying9
  a9 := Tro.isAgg9
  z9 := Tro.sizeOf9
  v9 := Tro.zeroValue9
  t28 := Tro.underlying25
  a28 := Tro.isAgg25
  z28 := Tro.sizeOf25
  v28 := Tro.zeroValue25
  t46 := Tro.underlying72
  a46 := Tro.isAgg72
  z46 := Tro.sizeOf72
  v46 := Tro.zeroValue72
  t51 := Tro.underlying76
  a51 := Tro.isAgg76
  z51 := Tro.sizeOf76
  v51 := Tro.zeroValue76
  t53 := Tro.underlying78
  a53 := Tro.isAgg78
  z53 := Tro.sizeOf78
  v53 := Tro.zeroValue78
  t131 := Tro.underlying85
  a131 := Tro.isAgg85
  z131 := Tro.sizeOf85
  v131 := Tro.zeroValue85
  t182 := Tro.underlying80
  a182 := Tro.isAgg80
  z182 := Tro.sizeOf80
  v182 := Tro.zeroValue80
  t183 := Tro.underlying81
  a183 := Tro.isAgg81
  z183 := Tro.sizeOf81
  v183 := Tro.zeroValue81
  t218 := Tro.underlying87
  a218 := Tro.isAgg87
  z218 := Tro.sizeOf87
  v218 := Tro.zeroValue87
  t222 := Tro.underlying91
  a222 := Tro.isAgg91
  z222 := Tro.sizeOf91
  v222 := Tro.zeroValue91
  t228 := Tro.underlying93
  a228 := Tro.isAgg93
  z228 := Tro.sizeOf93
  v228 := Tro.zeroValue93
  t229 := Tro.underlying33
  a229 := Tro.isAgg33
  z229 := Tro.sizeOf33
  v229 := Tro.zeroValue33 }
open Go.Sort Go.RowKit in
theorem Tro.slices_Sort_int (blk off cap : Nat) (zs : List Int) (w : World) (hH : Holds (Value.int .i64) w blk off zs.toArray) (hblk : blk < w.heap.size) (hsz : zs.length < 4611686018427387904) :
    Calls Tro.prog 76 #[.slice (some ⟨blk, off, none⟩) zs.length cap] w fun e w' =>
      e = .returned (.tuple #[]) ∧ ∃ n os, w' = grow (putRow (Value.int .i64) (Sort.ahead w n) blk off (zs.mergeSort fun x y => decide (x ≤ y)).toArray) os := Any.slices_Sort_int Tro.lays189 blk off cap zs w hH hblk hsz
open Go.RowKit Go.Sort in
theorem Tro.slices_Sort_int_none (p : Option Addr) (cap : Nat) (w : World) :
    Calls Tro.prog 76 #[.slice p 0 cap] w fun e w' => e = .returned (.tuple #[]) ∧ w' = w := Any.slices_Sort_int_none Tro.lays189 p cap w
end Go.Proofs

/-
  A list of numbers that a call made, sorted in place.
-/
namespace Go.Proofs.YtjgkignnfkbeaaaTro
open Go.RowKit
set_option linter.unusedVariables false

theorem Row.but {w w' : World} {B : Nat} {v : Value} {L : List Int} (h : Row w B v L) {g : Nat} (hg : w.grownBy w' (some g)) (hB : g < B) : Row w' B v L := by
  refine ⟨h.1.kept hg (.inr ?_), h.2⟩
  rcases h.cases with ⟨rfl, _⟩ | ⟨g', cap, rfl, hb, _⟩
  · simp [Value.ownBlock]
  · simp [Value.ownBlock]; omega
theorem Row.own_ge {w : World} {B k : Nat} {v : Value} {L : List Int} (h : Row w B v L) (e : v.ownBlock = some k) : B ≤ k := by
  rcases h.cases with ⟨rfl, _⟩ | ⟨g', cap, rfl, hb, _⟩
  · simp [Value.ownBlock] at e
  · simp [Value.ownBlock] at e; omega
/-- a list sorted in place -/
theorem sort_row (v : Value) (B : Nat) (L : List Int) (w : World) (h : Row w B v L) :
    Calls Tro.prog 76 #[v] w fun e w' => e = .returned (.tuple #[]) ∧ Row w' B v (L.mergeSort fun x y => decide (x ≤ y)) ∧ w.grownBy w' v.ownBlock := by
  obtain ⟨h1, h2⟩ := h
  have hlen : (L.mergeSort fun x y => decide (x ≤ y)).length = L.length := List.length_mergeSort _
  rcases h1.2 with ⟨e, hn⟩ | ⟨g, cap, cur, e, hg, hb, r1, r2, r3, r4⟩
  · subst e
    have : L = [] := List.eq_nil_of_length_eq_zero hn
    subst this
    refine (Tro.slices_Sort_int_none none 0 w).mono ?_
    rintro e w' ⟨rfl, rfl⟩
    exact ⟨rfl, ⟨⟨by simp, .inl ⟨rfl, by simp⟩⟩, by simp⟩, World.grownBy.refl _ _⟩
  · subst e
    refine (Tro.slices_Sort_int g 0 cap L w (holds_of_blockI hb (by simpa using r4)) (Array.getElem?_eq_some_iff.1 hb).1 (by omega)).mono ?_
    rintro e w' ⟨rfl, n, os, rfl⟩
    refine ⟨rfl, ⟨?_, by rw [hlen]; exact h2⟩, ?_⟩
    · rw [hlen]
      exact ownsRow_sortedI hlen hg hb r1 r2 r3
    · exact grownBy_sortedI _

end Go.Proofs.YtjgkignnfkbeaaaTro

/-
  Contract of the program's without: a set with one tone less.
-/
namespace Go.Proofs.YtjgkignnfkbeaaaTro
open Go.RowKit
set_option linter.unusedVariables false

theorem i64_andNot_nat (a b : Nat) (ha : a < 4611686018427387904) (hb : b < 4611686018427387904) : bits .andNot .i64 (a : Int) (b : Int) = ((Tic.nd a b : Nat) : Int) := by
  have hx : Tic.nd a b < 4611686018427387904 := Tic.nd_lt ha
  show IntKind.i64.wrap ((BitVec.ofInt 64 (a : Int) &&& ~~~ BitVec.ofInt 64 (b : Int)).toNat : Int) = _
  have e : (BitVec.ofInt 64 (a : Int) &&& ~~~ BitVec.ofInt 64 (b : Int)).toNat = Tic.nd a b := by
    refine Nat.eq_of_testBit_eq fun i => ?_
    rw [Tic.nd_bit, BitVec.toNat_and, Nat.testBit_and, ofInt_i64 a ha]
    by_cases hi : i < 64
    · have : (~~~ BitVec.ofInt 64 (b : Int)).toNat.testBit i = !b.testBit i := by
        have h1 : (~~~ BitVec.ofInt 64 (b : Int)).getLsbD i = !(BitVec.ofInt 64 (b : Int)).getLsbD i := by rw [BitVec.getLsbD_not]; simp [hi]
        have h2 : (BitVec.ofInt 64 (b : Int)).getLsbD i = b.testBit i := by rw [← BitVec.testBit_toNat, ofInt_i64 b hb]
        rw [BitVec.testBit_toNat, h1, h2]
      rw [this]
    · have : a.testBit i = false := Nat.testBit_lt_two_pow (Nat.lt_of_lt_of_le ha (by
        have : 2 ^ 62 ≤ 2 ^ i := Nat.pow_le_pow_right (by omega) (by omega)
        simpa using this))
      rw [this]; simp
  rw [e]
  exact IntWalk.i64_in _ (by omega)

theorem without_bits {S k : Nat} (hS : S < 4096) (hk : k ≤ 12) : bits .andNot .i64 (S : Int) (wrap64 ((2 : Int) ^ k)) = ((Tic.nd S (2 ^ k) : Nat) : Int) := by
  rw [wrap_pow (by omega)]
  have : 2 ^ k ≤ 2 ^ 12 := Nat.pow_le_pow_right (by omega) hk
  exact i64_andNot_nat _ _ (by omega) (by omega)

set_option maxRecDepth 20000 in
theorem without_any (n : Int) (S k : Nat) (w : World) (hS : S < 4096) (hk : k ≤ 12) :
    Calls Tro.prog 74 #[.agg #[.int .i64 n, .int .i64 S], .int .i64 k] w fun e w' => e = .returned (.agg #[.int .i64 n, .int .i64 (Tic.nd S (2 ^ k) : Int)]) ∧ Below w.heap.size w w' := by
  have HW := Lib.hid (without_bits hS hk)
  go_enter Tro.func74, Tro.ntmps74
  go_wp2
  have c0 : ((w.alloc (.cells #[.int .i64 n, .int .i64 S] 47)).alloc (.cells #[.int .i64 0, .int .i64 0] 47)).cell? ⟨w.heap.size, 0, none⟩ = some (.int .i64 n) := by go_simp
  have c1 : ((w.alloc (.cells #[.int .i64 n, .int .i64 S] 47)).alloc (.cells #[.int .i64 0, .int .i64 0] 47)).cell? ⟨w.heap.size, 1, none⟩ = some (.int .i64 S) := by go_simp
  have c2 : ((w.alloc (.cells #[.int .i64 n, .int .i64 S] 47)).alloc (.cells #[.int .i64 0, .int .i64 0] 47)).frozen? ⟨w.heap.size, 1, none⟩ = false := by go_simp
  have r0 : ((w.alloc (.cells #[.int .i64 n, .int .i64 S] 47)).alloc (.cells #[.int .i64 0, .int .i64 0] 47)).cell? ⟨w.heap.size + 1, 0, none⟩ = some (.int .i64 0) := by go_simp
  have r1 : ((w.alloc (.cells #[.int .i64 n, .int .i64 S] 47)).alloc (.cells #[.int .i64 0, .int .i64 0] 47)).cell? ⟨w.heap.size + 1, 1, none⟩ = some (.int .i64 0) := by go_simp
  have q0 : ((w.alloc (.cells #[.int .i64 n, .int .i64 S] 47)).alloc (.cells #[.int .i64 0, .int .i64 0] 47)).frozen? ⟨w.heap.size + 1, 0, none⟩ = false := by go_simp
  have q1 : ((w.alloc (.cells #[.int .i64 n, .int .i64 S] 47)).alloc (.cells #[.int .i64 0, .int .i64 0] 47)).frozen? ⟨w.heap.size + 1, 1, none⟩ = false := by go_simp
  have hbel : Below w.heap.size w ((w.alloc (.cells #[.int .i64 n, .int .i64 S] 47)).alloc (.cells #[.int .i64 0, .int .i64 0] 47)) := ((Below.refl _ _).alloc (Nat.le_refl _) _).alloc (by simp) _
  generalize (w.alloc (.cells #[.int .i64 n, .int .i64 S] 47)).alloc (.cells #[.int .i64 0, .int .i64 0] 47) = W at c0 c1 c2 r0 r1 q0 q1 hbel ⊢
  refine wp_region_still_tail 6 (by kernel_rfl) (by kernel_rfl) ?_
  simp only [List.take_succ_cons, List.take_zero, List.drop_succ_cons, List.drop_zero]
  still_step
  still_step
  still_step
  still_step
  still_step
  still_step
  refine wpStill_nil ?_
  change wpList _ _ _ _ _ W.drew
  go_wp2
  rw [HW.out]
  obtain ⟨e1, e2⟩ := pair_back (w := W.setCell ⟨w.heap.size, 1, none⟩ (.int .i64 (Tic.nd S (2 ^ k) : Int))) (x := .int .i64 n) (y := .int .i64 (Tic.nd S (2 ^ k) : Int)) ((World.cell?_setCell_other _ _ _ _ (by simp)).trans r0) ((World.cell?_setCell_other _ _ _ _ (by simp)).trans r1)
  refine bodyPost_ret (v := .agg #[.int .i64 n, .int .i64 (Tic.nd S (2 ^ k) : Int)]) (by simp [results, Tro.results74, go_sem, e1, e2]) rfl ⟨rfl, ?_⟩
  exact (((hbel.setCell (by simp) _).setCell (by simp) _).setCell (by simp) _).drew
end Go.Proofs.YtjgkignnfkbeaaaTro

/-
  Contracts of NearOf, of the program and of the model.
-/
namespace Go.Proofs.YtjgkignnfkbeaaaTro
open Go.RowKit
set_option linter.unusedVariables false

theorem isNear_no1 {n S m : Nat} (h : Tic.wt 12 (Tic.nd S m) ≠ 1) : Tic.isNear n S m = false := decide_eq_false fun q => h q.1
theorem isNear_no2 {n S m : Nat} (h : Tic.wt 12 (Tic.nd m S) ≠ 1) : Tic.isNear n S m = false := decide_eq_false fun q => h q.2.1
theorem isNear_no3 {n S m : Nat} (h1 : Tic.shf n 1 (Tic.nd S m) ≠ Tic.nd m S) (h2 : Tic.shf n 1 (Tic.nd m S) ≠ Tic.nd S m) : Tic.isNear n S m = false := decide_eq_false fun q => q.2.2.elim h1 h2
theorem beq_no {a b : Nat} (h : a ≠ b) : ((a : Int) == (b : Int)) = false := beq_eq_false_iff_ne.2 (fun e => h (Int.ofNat.inj e))

theorem beq_no1 {a : Nat} (h : a ≠ 1) : ((a : Int) == 1) = false := beq_eq_false_iff_ne.2 (fun e => h (by omega))

set_option maxHeartbeats 1000000 in
theorem snear_any (n s : Int) (w : World) (hv : Tic.Valid n s) :
    Calls Tro.prog 53 #[.int .i64 n, .int .i64 s] w (Gives (Tic.nearTo n.toNat s.toNat (2 ^ n.toNat)) w) := by
  have hlt := hv.lt
  obtain ⟨g1, g2, g3, g4⟩ := hv
  obtain ⟨N, rfl⟩ := Int.eq_ofNat_of_zero_le (show 0 ≤ n by omega)
  obtain ⟨S, rfl⟩ := Int.eq_ofNat_of_zero_le g3
  rw [Int.toNat_natCast, Int.toNat_natCast]
  rw [Int.toNat_natCast] at g4
  have hp := Tic.pow_le_12 (n := (N : Int)) g2
  rw [Int.toNat_natCast] at hp
  generalize hg : 2 ^ N = p at hp g4
  have HP := Lib.hid hg
  have HV : Hid (∀ x : Nat, x < p → Tic.Valid N x) := fun x hx => ⟨g1, g2, by omega, by rw [Int.toNat_natCast, hg]; omega⟩
  clear hg
  have hSp : S < p := by omega
  go_enter Tro.func53, Tro.ntmps53
  go_wp2
  go_loopw [5, 6] (fun t5 t6 wr => ∃ m : Nat, m ≤ p ∧ t6 = .int .i64 m ∧ Hid (Row wr w.heap.size t5 (Tic.nearTo N S m)) ∧ Below w.heap.size w wr) (fun _ t6 _ => p - (intOf t6).toNat)
  case atStart => exact ⟨0, Nat.zero_le _, rfl, ⟨World.ownsRow_made w #[] 0 (Nat.le_refl _) (by decide) rfl, Nat.zero_le _⟩, (Below.refl _ _).alloc (Nat.le_refl _) _⟩
  case round =>
    obtain ⟨m, hm, rfl, HR, hbel⟩ := hrel
    have hl := Tic.nearTo_le N S m
    have hsz := hbel.size
    by_cases hlt : m < p
    · have HX := Lib.hid (i64_andNot_nat S m (by omega) (by omega))
      have HY := Lib.hid (i64_andNot_nat m S (by omega) (by omega))
      have hx : Tic.nd S m < p := Tic.nd_lt hSp
      have hy : Tic.nd m S < p := Tic.nd_lt hlt
      by_cases q1 : Tic.wt 12 (Tic.nd S m) = 1
      · by_cases q2 : Tic.wt 12 (Tic.nd m S) = 1
        · have HW1 : Hid (∀ w, Calls Tro.prog 64 #[.int .i64 (Tic.nd S m : Int)] w fun e w' => e = .returned (.int .i64 1) ∧ w = w') := fun w => (weight_any _ w (by omega) (by omega)).mono fun e w' ⟨h1, h2⟩ => ⟨h1.trans (ret_int (by rw [Int.toNat_natCast, q1]; rfl)), h2⟩
          have HW2 : Hid (∀ w, Calls Tro.prog 64 #[.int .i64 (Tic.nd m S : Int)] w fun e w' => e = .returned (.int .i64 1) ∧ w = w') := fun w => (weight_any _ w (by omega) (by omega)).mono fun e w' ⟨h1, h2⟩ => ⟨h1.trans (ret_int (by rw [Int.toNat_natCast, q2]; rfl)), h2⟩
          have HS1 : Hid (∀ w, Calls Tro.prog 59 #[.int .i64 (N : Int), .int .i64 (Tic.nd S m : Int), .int .i64 1] w fun e w' => e = .returned (.int .i64 (Tic.shf N 1 (Tic.nd S m) : Int)) ∧ w = w') := fun w => by
            have := sshift_any N (Tic.nd S m : Int) 1 w (HV.out _ hx) ⟨by omega, by omega⟩
            rwa [Int.toNat_natCast, Int.toNat_natCast] at this
          have HS2 : Hid (∀ w, Calls Tro.prog 59 #[.int .i64 (N : Int), .int .i64 (Tic.nd m S : Int), .int .i64 1] w fun e w' => e = .returned (.int .i64 (Tic.shf N 1 (Tic.nd m S) : Int)) ∧ w = w') := fun w => by
            have := sshift_any N (Tic.nd m S : Int) 1 w (HV.out _ hy) ⟨by omega, by omega⟩
            rwa [Int.toNat_natCast, Int.toNat_natCast] at this
          by_cases q3 : Tic.shf N 1 (Tic.nd S m) = Tic.nd m S
          · have HT : Hid (Tic.isNear N S m = true) := Lib.hid (decide_eq_true ⟨q1, q2, .inl q3⟩)
            rw [q3] at HS1
            clear q1 q2 q3
            generalize Tic.nd S m = X at HX HW1 HS1 HS2 hx
            generalize Tic.nd m S = Y at HY HW2 HS1 HS2 hy
            go_wp2_with fail
            refine (power_any _ _ (by omega) (by omega)).mono ?_; rintro e w1 ⟨rfl, rfl⟩; rw [Int.toNat_natCast, HP.out]
            go_wp2_with fail
            rw [HX.out]
            refine (HW1.out _).mono ?_; rintro e w1 ⟨rfl, rfl⟩
            go_wp2_with fail
            rw [HY.out]
            refine (HW2.out _).mono ?_; rintro e w1 ⟨rfl, rfl⟩
            go_wp2_with fail
            refine (HS1.out _).mono ?_; rintro e w1 ⟨rfl, rfl⟩
            go_wp2_with (at_builtin; refine wpList_append_int rfl _ _ rfl w.heap.size _ (Tic.nearTo N S m) rfl (HR.out.alloc _) wr.heap.size 1 m rfl ?c1 ?c2 ?c3 ?_)
            case c1 => go_simp
            case c2 => omega
            case c3 => simp; omega
            intro v' w1 hrow hb1
            have HR1 := Lib.hid hrow
            clear hrow
            go_wp2
            go_roundw
            case rel => exact ⟨m + 1, by omega, by go_num, by rw [Tic.nearTo_yes HT.out]; exact HR1, (hbel.alloc hsz _).trans hb1⟩
            case measure => simp [intOf]; omega
          · by_cases q4 : Tic.shf N 1 (Tic.nd m S) = Tic.nd S m
            · have HT : Hid (Tic.isNear N S m = true) := Lib.hid (decide_eq_true ⟨q1, q2, .inr q4⟩)
              rw [q4] at HS2
              have hne := beq_no q3
              clear q1 q2 q3 q4
              generalize Tic.shf N 1 (Tic.nd S m) = Z at HS1 hne
              generalize Tic.nd S m = X at HX HW1 HS1 HS2 hx
              generalize Tic.nd m S = Y at HY HW2 HS1 HS2 hy hne
              go_wp2_with fail
              refine (power_any _ _ (by omega) (by omega)).mono ?_; rintro e w1 ⟨rfl, rfl⟩; rw [Int.toNat_natCast, HP.out]
              go_wp2_with fail
              rw [HX.out]
              refine (HW1.out _).mono ?_; rintro e w1 ⟨rfl, rfl⟩
              go_wp2_with fail
              rw [HY.out]
              refine (HW2.out _).mono ?_; rintro e w1 ⟨rfl, rfl⟩
              go_wp2_with fail
              refine (HS1.out _).mono ?_; rintro e w1 ⟨rfl, rfl⟩
              go_wp2_with fail
              refine (HS2.out _).mono ?_; rintro e w1 ⟨rfl, rfl⟩
              go_wp2_with (at_builtin; refine wpList_append_int rfl _ _ rfl w.heap.size _ (Tic.nearTo N S m) rfl (HR.out.alloc _) wr.heap.size 1 m rfl ?c1 ?c2 ?c3 ?_)
              case c1 => go_simp
              case c2 => omega
              case c3 => simp; omega
              intro v' w1 hrow hb1
              have HR1 := Lib.hid hrow
              clear hrow
              go_wp2
              go_roundw
              case rel => exact ⟨m + 1, by omega, by go_num, by rw [Tic.nearTo_yes HT.out]; exact HR1, (hbel.alloc hsz _).trans hb1⟩
              case measure => simp [intOf]; omega
            · have HT := Lib.hid (isNear_no3 q3 q4)
              have hne := beq_no q3
              have hne2 := beq_no q4
              clear q1 q2 q3 q4
              generalize Tic.shf N 1 (Tic.nd S m) = Z at HS1 hne
              generalize Tic.shf N 1 (Tic.nd m S) = Z2 at HS2 hne2
              generalize Tic.nd S m = X at HX HW1 HS1 HS2 hx hne2
              generalize Tic.nd m S = Y at HY HW2 HS1 HS2 hy hne
              go_wp2_with fail
              refine (power_any _ _ (by omega) (by omega)).mono ?_; rintro e w1 ⟨rfl, rfl⟩; rw [Int.toNat_natCast, HP.out]
              go_wp2_with fail
              rw [HX.out]
              refine (HW1.out _).mono ?_; rintro e w1 ⟨rfl, rfl⟩
              go_wp2_with fail
              rw [HY.out]
              refine (HW2.out _).mono ?_; rintro e w1 ⟨rfl, rfl⟩
              go_wp2_with fail
              refine (HS1.out _).mono ?_; rintro e w1 ⟨rfl, rfl⟩
              go_wp2_with fail
              refine (HS2.out _).mono ?_; rintro e w1 ⟨rfl, rfl⟩
              go_wp2
              go_roundw
              case rel => exact ⟨m + 1, by omega, by go_num, by rw [Tic.nearTo_no HT.out]; exact HR, hbel⟩
              case measure => simp [intOf]; omega
        · have HT := Lib.hid (isNear_no2 (n := N) q2)
          have HW1 : Hid (∀ w, Calls Tro.prog 64 #[.int .i64 (Tic.nd S m : Int)] w fun e w' => e = .returned (.int .i64 1) ∧ w = w') := fun w => (weight_any _ w (by omega) (by omega)).mono fun e w' ⟨h1, h2⟩ => ⟨h1.trans (ret_int (by rw [Int.toNat_natCast, q1]; rfl)), h2⟩
          have HW2 : Hid (∀ w, Calls Tro.prog 64 #[.int .i64 (Tic.nd m S : Int)] w fun e w' => e = .returned (.int .i64 (Tic.wt 12 (Tic.nd m S) : Int)) ∧ w = w') := fun w => (weight_any _ w (by omega) (by omega)).mono fun e w' ⟨h1, h2⟩ => ⟨h1.trans (ret_int (by rw [Int.toNat_natCast])), h2⟩
          have hne := beq_no1 q2
          clear q1 q2
          generalize Tic.wt 12 (Tic.nd m S) = Z at HW2 hne
          generalize Tic.nd S m = X at HX HW1 hx
          generalize Tic.nd m S = Y at HY HW2 hy
          go_wp2_with fail
          refine (power_any _ _ (by omega) (by omega)).mono ?_; rintro e w1 ⟨rfl, rfl⟩; rw [Int.toNat_natCast, HP.out]
          go_wp2_with fail
          rw [HX.out]
          refine (HW1.out _).mono ?_; rintro e w1 ⟨rfl, rfl⟩
          go_wp2_with fail
          rw [HY.out]
          refine (HW2.out _).mono ?_; rintro e w1 ⟨rfl, rfl⟩
          go_wp2
          go_roundw
          case rel => exact ⟨m + 1, by omega, by go_num, by rw [Tic.nearTo_no HT.out]; exact HR, hbel⟩
          case measure => simp [intOf]; omega
      · have HT := Lib.hid (isNear_no1 (n := N) q1)
        have HW1 : Hid (∀ w, Calls Tro.prog 64 #[.int .i64 (Tic.nd S m : Int)] w fun e w' => e = .returned (.int .i64 (Tic.wt 12 (Tic.nd S m) : Int)) ∧ w = w') := fun w => (weight_any _ w (by omega) (by omega)).mono fun e w' ⟨h1, h2⟩ => ⟨h1.trans (ret_int (by rw [Int.toNat_natCast])), h2⟩
        have hne := beq_no1 q1
        clear q1
        generalize Tic.wt 12 (Tic.nd S m) = Z at HW1 hne
        generalize Tic.nd S m = X at HX HW1 hx
        go_wp2_with fail
        refine (power_any _ _ (by omega) (by omega)).mono ?_; rintro e w1 ⟨rfl, rfl⟩; rw [Int.toNat_natCast, HP.out]
        go_wp2_with fail
        rw [HX.out]
        refine (HW1.out _).mono ?_; rintro e w1 ⟨rfl, rfl⟩
        go_wp2
        go_roundw
        case rel => exact ⟨m + 1, by omega, by go_num, by rw [Tic.nearTo_no HT.out]; exact HR, hbel⟩
        case measure => simp [intOf]; omega
    · have : m = p := by omega
      subst this
      go_wp2_with fail
      refine (power_any _ _ (by omega) (by omega)).mono ?_; rintro e w1 ⟨rfl, rfl⟩; rw [Int.toNat_natCast, HP.out]
      go_wp2_with fail
      go_ret
      exact ⟨_, rfl, HR, hbel⟩

theorem nearL_same (n S a : Nat) : ∀ b, a ≤ b → (tonesTo S a).length = (tonesTo S b).length → Tic.nearL n S b = Tic.nearL n S a
  | 0, h, _ => by rw [Nat.le_zero.1 h]
  | b + 1, h, e => by
    by_cases e2 : a = b + 1
    · rw [e2]
    · have hm := tonesTo_mono S a b (by omega)
      cases hb : S.testBit b with
      | false =>
        rw [tonesTo_no hb] at e
        rw [show Tic.nearL n S (b + 1) = Tic.nearL n S b by conv => lhs; unfold Tic.nearL; rw [if_neg (by simp [hb])]]
        exact nearL_same n S a b (by omega) e
      | true => rw [tonesTo_yes hb] at e; simp at e; omega
theorem nearL_eq {n S a b : Nat} (e : (tonesTo S a).length = (tonesTo S b).length) : Tic.nearL n S b = Tic.nearL n S a := by
  rcases Nat.le_total a b with h | h
  · exact nearL_same n S a b h e
  · exact (nearL_same n S b a h e.symm).symm
/-- the first j of the two that the tone x adds -/
def nearH (n S x : Nat) : Nat → List Int
  | 0 => []
  | 1 => if S.testBit (Tic.dn n x) then [] else [(Tic.mv1 S x (Tic.dn n x) : Int)]
  | _ => Tic.near1 n S x
theorem nearH_le (n S x j : Nat) : (nearH n S x j).length ≤ 2 := by
  match j with
  | 0 => simp [nearH]
  | 1 => simp only [nearH]; split <;> simp
  | j + 2 => exact Tic.near1_le n S x
/-- the tone that is looked at -/
def nextTo (n x j : Nat) : Nat := if j = 0 then Tic.dn n x else Tic.up n x
theorem nearH_yes {n S x j : Nat} (hj : j < 2) (h : S.testBit (nextTo n x j) = true) : nearH n S x (j + 1) = nearH n S x j := by
  obtain rfl | rfl : j = 0 ∨ j = 1 := by omega
  · simp [nextTo] at h; simp [nearH, h]
  · simp [nextTo] at h; simp [nearH, Tic.near1, h]
theorem nearH_no {n S x j : Nat} (hj : j < 2) (h : S.testBit (nextTo n x j) = false) : nearH n S x (j + 1) = nearH n S x j ++ [(Tic.mv1 S x (nextTo n x j) : Int)] := by
  obtain rfl | rfl : j = 0 ∨ j = 1 := by omega
  · simp [nextTo] at h; simp [nearH, h, nextTo]
  · simp [nextTo] at h; simp [nearH, Tic.near1, h, nextTo]
/-- the number that the program turns round -/
def stepTo (x j : Nat) : Int := if j = 0 then (x : Int) - 1 else (x : Int) + 1
theorem stepTo_emod {n x j : Nat} (hx : x < n) : stepTo x j % (n : Int) = (nextTo n x j : Int) := by
  have h0 : 0 ≤ stepTo x j % (n : Int) := Int.emod_nonneg _ (by omega)
  have : (stepTo x j % (n : Int)).toNat = nextTo n x j := by
    unfold stepTo nextTo
    split
    · exact Tic.dn_emod hx
    · exact Tic.up_emod hx
  omega
theorem nextTo_lt {n x j : Nat} (hx : x < n) : nextTo n x j < n := by
  unfold nextTo; split
  · exact Tic.dn_lt hx
  · exact Tic.up_lt hx
theorem nearL_next {n S y : Nat} (h : S.testBit y = true) : Tic.nearL n S (y + 1) = Tic.nearL n S y ++ nearH n S y 2 := by
  conv => lhs; unfold Tic.nearL; rw [if_pos h]
  rfl

theorem grow0n {a b d : World} (h : Below a.heap.size a b) (k : Below b.heap.size b d) : Below a.heap.size a d := h.trans (k.mono h.size)
theorem grow1n {a b d : World} (h : Below a.heap.size a b) (k : Below b.drew.heap.size b.drew d) : Below a.heap.size a d := h.drew.trans (k.mono h.size)

set_option maxRecDepth 20000 in
set_option maxHeartbeats 2000000 in
theorem near_any (n s : Int) (w : World) (hv : Tic.Valid n s) :
    Calls Tro.prog 51 #[.agg #[.int .i64 n, .int .i64 s]] w (Gives (Tic.nearTo n.toNat s.toNat (2 ^ n.toNat)) w) := by
  have hlt := hv.lt
  have g1 := hv.1
  have g2 := hv.2.1
  obtain ⟨N, rfl⟩ := Int.eq_ofNat_of_zero_le (show 0 ≤ n by omega)
  obtain ⟨S, rfl⟩ := Int.eq_ofNat_of_zero_le hv.2.2.1
  rw [Int.toNat_natCast, Int.toNat_natCast]
  have HSO : Hid (((Tic.nearL N S N).mergeSort fun x y => decide (x ≤ y)) = Tic.nearTo N S (2 ^ N)) := Lib.hid (Tic.near_sorted (n := N) (S := S) (by omega) (by omega) (by have := hv.2.2.2; rw [Int.toNat_natCast] at this; omega))
  go_enter Tro.func51, Tro.ntmps51
  go_wp2_with fail
  refine (list_any _ _ _ hv).mono ?_; rintro e w1 ⟨v, rfl, hr, hb1⟩
  rw [Int.toNat_natCast, Int.toNat_natCast] at hr
  have a0 : w1.cell? ⟨w.heap.size, 0, none⟩ = some (.int .i64 N) := (hb1.cell (p := ⟨w.heap.size, 0, none⟩) (by simp)).trans (by go_simp)
  have a1 : w1.cell? ⟨w.heap.size, 1, none⟩ = some (.int .i64 S) := (hb1.cell (p := ⟨w.heap.size, 1, none⟩) (by simp)).trans (by go_simp)
  have hz1 := hb1.size
  simp at hz1
  have hbel1 : Below w.heap.size w w1 := ((Below.refl w.heap.size w).alloc (Nat.le_refl _) _).trans (hb1.mono (by simp))
  clear hb1
  rcases hr.cases with ⟨rfl, hT⟩ | ⟨gt, ct, rfl, hgt, hgt2, hct, _⟩
  · have HE : Hid (Tic.nearL N S N = []) := by
      have := nearL_eq (n := N) (S := S) (a := 0) (b := N) (by rw [hT]; rfl)
      rw [show Tic.nearL N S 0 = [] from rfl] at this
      exact this
    rw [HE.out] at HSO
    clear hT hr
    go_wp2
    refine wp_loop_rounds 1 ?_
    rw [rounds_succ]
    go_wp2_with fail
    refine (sort_row _ _ [] _ (Row.nil _ (w.heap.size + 1))).mono ?_; rintro e w2 ⟨rfl, hrow, hg⟩
    rw [HSO.out] at hrow
    have hbel2 := hbel1.grown hg (by omega) (fun j hj => by cases hj)
    go_wp2_with fail
    go_ret
    exact ⟨_, rfl, hrow.mono (by omega), hbel2⟩
  · have HT := Lib.hid hct
    clear hct hr
    generalize hl : (tonesTo S N).length = l at HT
    have HL := Lib.hid hl
    have hl12 : l ≤ 12 := by rw [← hl]; have := tonesTo_le S N; omega
    clear hl
    simp at hgt
    go_wp2
    go_loopw [3, 5, 7, 11] (fun t3 t5 t7 t11 wr => ∃ Y i : Nat, Y ≤ N ∧ i ≤ l ∧ t11 = .int .i64 i ∧ (tonesTo S Y).length = i ∧
      Hid (Row wr (gt + 1) t3 (Tic.nearL N S Y)) ∧
      Hid (∀ i, i < l → wr.cell? ⟨gt, i, none⟩ = some (.int .i64 ((tonesTo S N).getD i 0))) ∧ wr.cell? ⟨w.heap.size, 0, none⟩ = some (.int .i64 N) ∧ wr.cell? ⟨w.heap.size, 1, none⟩ = some (.int .i64 S) ∧ gt < wr.heap.size ∧ Below w.heap.size w wr) (fun _ _ _ t11 _ => l - (intOf t11).toNat)
    case atStart => exact ⟨0, 0, by omega, by omega, rfl, rfl, Row.nil _ _, HT, a0, a1, hgt2, hbel1⟩
    case round =>
      clear HT a0 a1 hbel1 hgt2 hz1
      obtain ⟨Y, i, hY, hi, rfl, hYL, HR, HT, c0, c1, hgs, hbel⟩ := hrel
      have HYL := Lib.hid hYL
      clear hYL
      by_cases hli : i < l
      · obtain ⟨y, hyN, hyb, hyv, hyl⟩ := tonesTo_at S N i (by rw [HL.out]; exact hli)
        have hty := HT.out i hli
        rw [hyv] at hty
        have HYB := Lib.hid hyb
        have HY := Lib.hid hyl
        have HR2 : Hid (Row wr (gt + 1) u3 (Tic.nearL N S y)) := by
          have := HR.out
          rw [← nearL_eq (n := N) (HYL.out.trans HY.out.symm)] at this
          exact this
        have hnl := Tic.nearL_le N S y
        have hsz := hbel.size
        clear hyb hyl hyv HR
        go_wp2
        have s0 : (wr.alloc (.cells #[.int .i64 (y - 1), .int .i64 (y + 1)] 3)).cell? ⟨wr.heap.size, 0, none⟩ = some (.int .i64 (y - 1)) := by go_simp
        have s1 : (wr.alloc (.cells #[.int .i64 (y - 1), .int .i64 (y + 1)] 3)).cell? ⟨wr.heap.size, 1, none⟩ = some (.int .i64 (y + 1)) := by go_simp
        have HSL : Hid (∀ j, j < 2 → (wr.alloc (.cells #[.int .i64 (y - 1), .int .i64 (y + 1)] 3)).cell? ⟨wr.heap.size, j, none⟩ = some (.int .i64 (stepTo y j))) := fun j hj => by
          obtain rfl | rfl : j = 0 ∨ j = 1 := by omega
          · exact s0
          · exact s1
        have hbz : Below wr.heap.size wr (wr.alloc (.cells #[.int .i64 (y - 1), .int .i64 (y + 1)] 3)) := (Below.refl _ _).alloc (Nat.le_refl _) _
        have HR3 := Lib.hid (HR2.out.kept hbz)
        have HO : Hid (u3.ownBlock ≠ some wr.heap.size) := fun e => by have := (HR2.out.lt _ e).2; omega
        have HT3 : Hid (∀ i, i < l → (wr.alloc (.cells #[.int .i64 (y - 1), .int .i64 (y + 1)] 3)).cell? ⟨gt, i, none⟩ = some (.int .i64 ((tonesTo S N).getD i 0))) := fun i hi => (hbz.cell (p := ⟨gt, i, none⟩) hgs).trans (HT.out i hi)
        have d0 := (hbz.cell (p := ⟨w.heap.size, 0, none⟩) (by show w.heap.size < _; omega)).trans c0
        have d1 := (hbz.cell (p := ⟨w.heap.size, 1, none⟩) (by show w.heap.size < _; omega)).trans c1
        have hbelz : Below w.heap.size w (wr.alloc (.cells #[.int .i64 (y - 1), .int .i64 (y + 1)] 3)) := hbel.trans (hbz.mono hbel.size)
        have hzz : wr.heap.size < (wr.alloc (.cells #[.int .i64 (y - 1), .int .i64 (y + 1)] 3)).heap.size := by simp
        clear s0 s1 HR2 HT c0 c1 hbz hty hbel
        generalize hgs0 : wr.heap.size = gs at hgs HSL HO hzz hsz ⊢
        generalize wr.alloc (.cells #[.int .i64 (y - 1), .int .i64 (y + 1)] 3) = wo at HSL HR3 HT3 d0 d1 hbelz hzz ⊢
        clear hgs0
        go_loopw [3, 7, 21] (fun t3 t7 t21 wr => ∃ j : Nat, j ≤ 2 ∧ t21 = .int .i64 j ∧
          Hid (Row wr (gt + 1) t3 (Tic.nearL N S y ++ nearH N S y j)) ∧ Hid (t3.ownBlock ≠ some gs) ∧ Hid (∀ j, j < 2 → wr.cell? ⟨gs, j, none⟩ = some (.int .i64 (stepTo y j))) ∧
          Hid (∀ i, i < l → wr.cell? ⟨gt, i, none⟩ = some (.int .i64 ((tonesTo S N).getD i 0))) ∧ wr.cell? ⟨w.heap.size, 0, none⟩ = some (.int .i64 N) ∧ wr.cell? ⟨w.heap.size, 1, none⟩ = some (.int .i64 S) ∧ gs < wr.heap.size ∧ Below w.heap.size w wr) (fun _ _ t21 _ => 2 - (intOf t21).toNat)
        case atStart => exact ⟨0, by omega, rfl, by rw [show nearH N S y 0 = [] from rfl, List.append_nil]; exact HR3, HO, HSL, HT3, d0, d1, hzz, hbelz⟩
        case round =>
          clear HR3 HO HSL HT3 d0 d1 hzz hbelz
          obtain ⟨j, hj, rfl, HR, HO, HSL, HT, c0, c1, hgz, hbel⟩ := hrel
          by_cases hj2 : j < 2
          · have hsl := HSL.out j hj2
            have hzn := nextTo_lt (n := N) (x := y) (j := j) hyN
            have hzv := stepTo_emod (n := N) (x := y) (j := j) hyN
            have hzb : -1 ≤ stepTo y j ∧ stepTo y j ≤ 13 := by unfold stepTo; split <;> omega
            have hnh := nearH_le N S y j
            have hjj : (j : Int) < 2 := by omega
            have HRC : Hid (∀ w, Calls Tro.prog 73 #[.int .i64 (N : Int), .int .i64 (stepTo y j)] w fun e w' => e = .returned (.int .i64 (nextTo N y j : Int)) ∧ w = w') := fun w => by
              have := roundCircle_any N (stepTo y j) w (by omega) (by omega) (by omega) (by omega)
              rwa [hzv] at this
            have HWI : Hid (∀ (x : Nat) w, x < 4096 → Calls Tro.prog 75 #[.agg #[.int .i64 (N : Int), .int .i64 (x : Int)], .int .i64 (stepTo y j)] w fun e w' => e = .returned (.agg #[.int .i64 (N : Int), .int .i64 ((x ||| 2 ^ nextTo N y j : Nat) : Int)]) ∧ Below w.heap.size w w') := fun x w hx => by
              have := with_any N x (stepTo y j) w (by omega) (by omega) (by omega) (by omega) (by omega) (by omega)
              rwa [hzv, Int.toNat_natCast, Int.toNat_natCast] at this
            have HWO := Lib.hid (fun w => without_any N S y w (by omega) (by omega))
            have hk0 : Below wr.heap.size wr wr := Below.refl _ _
            have hsz3 := hbel.size
            have hw0 : w.heap.size < wr.heap.size := by omega
            cases hbit : S.testBit (nextTo N y j) with
            | true =>
              have HHA := Lib.hid (fun w => has_yes N S S (nextTo N y j) w rfl (by omega) (by omega) hbit)
              have HNH := Lib.hid (nearH_yes (n := N) hj2 hbit)
              clear hbit hzv
              generalize stepTo y j = z at hsl HRC HWI hzb
              generalize nextTo N y j = d at HRC HWI HHA hzn
              go_wp2_with fail
              go_region_held3 (fun w' => w'.cell? ⟨w.heap.size, 0, none⟩ = some (.int .i64 (N : Int)) ∧ w'.cell? ⟨w.heap.size, 1, none⟩ = some (.int .i64 (S : Int)))
                (first | go_keep | (refine ⟨(hk0.cell ?_).trans ?_, (hk0.cell ?_).trans ?_⟩ <;> assumption))
                (first | (go_at_call 73; refine (HRC.out _).mono ?_; rintro e wx ⟨rfl, rfl⟩) | (go_at_call 71; refine (HHA.out _).mono ?_; rintro e wx ⟨rfl, hb⟩; replace hk0 : Below wr.heap.size wr wx := (by first | exact grow1n hk0 hb | exact grow0n hk0 hb); clear hb))
              have HR1 := Lib.hid (HR.out.kept hk0)
              have HSL1 := Lib.hid (fun j hj => (hk0.cell (p := ⟨gs, j, none⟩) hgz).trans (HSL.out j hj))
              have HT1 := Lib.hid (fun i hi => (hk0.cell (p := ⟨gt, i, none⟩) (by show gt < _; omega)).trans (HT.out i hi))
              have hz4 := hk0.size
              have hbel4 := hbel.trans (hk0.mono hsz3)
              have c0' := (hk0.cell (p := ⟨w.heap.size, 0, none⟩) hw0).trans c0
              have c1' := (hk0.cell (p := ⟨w.heap.size, 1, none⟩) hw0).trans c1
              go_wp2
              go_roundw
              case rel => exact ⟨j + 1, by omega, by go_num, by rw [HNH.out]; exact HR1, HO, HSL1, HT1, c0', c1', by omega, hbel4⟩
              case measure => simp [intOf]; omega
            | false =>
              have HHA := Lib.hid (fun w => has_no N S S (nextTo N y j) w rfl (by omega) (by omega) hbit)
              have HNH := Lib.hid (nearH_no (n := N) hj2 hbit)
              clear hbit hzv
              have hnd : Tic.nd S (2 ^ y) < 4096 := Tic.nd_lt (by omega)
              generalize stepTo y j = z at hsl HRC HWI hzb
              generalize hd : nextTo N y j = d at HRC HWI HHA HNH hzn
              have HMV : Hid (Tic.mv1 S y d = Tic.nd S (2 ^ y) ||| 2 ^ d) := Lib.hid rfl
              generalize Tic.nd S (2 ^ y) = S2 at HWO hnd HMV
              clear hd
              go_wp2_with fail
              go_region_held3 (fun w' => w'.cell? ⟨w.heap.size, 0, none⟩ = some (.int .i64 (N : Int)) ∧ w'.cell? ⟨w.heap.size, 1, none⟩ = some (.int .i64 (S : Int)))
                (first | go_keep | (refine ⟨(hk0.cell ?_).trans ?_, (hk0.cell ?_).trans ?_⟩ <;> assumption))
                (first | (go_at_call 73; refine (HRC.out _).mono ?_; rintro e wx ⟨rfl, rfl⟩) | (go_at_call 71; refine (HHA.out _).mono ?_; rintro e wx ⟨rfl, hb⟩; replace hk0 : Below wr.heap.size wr wx := (by first | exact grow1n hk0 hb | exact grow0n hk0 hb); clear hb))
              have hz4 := hk0.size
              have c0' := (hk0.cell (p := ⟨w.heap.size, 0, none⟩) hw0).trans c0
              have c1' := (hk0.cell (p := ⟨w.heap.size, 1, none⟩) hw0).trans c1
              go_wp2_with fail
              refine (HWO.out _).mono ?_; rintro e w3 ⟨rfl, hb3⟩
              replace hk0 := grow0n hk0 hb3
              clear hb3 c0' c1'
              go_wp2_with fail
              refine (HWI.out _ _ hnd).mono ?_; rintro e w4 ⟨rfl, hb4⟩
              replace hk0 := grow0n hk0 hb4
              have hz5 := hk0.size
              have HR1 := Lib.hid (HR.out.kept hk0)
              have HSL1 := Lib.hid (fun j hj => (hk0.cell (p := ⟨gs, j, none⟩) hgz).trans (HSL.out j hj))
              have HT1 := Lib.hid (fun i hi => (hk0.cell (p := ⟨gt, i, none⟩) (by show gt < _; omega)).trans (HT.out i hi))
              have hbel4 := hbel.trans (hk0.mono hsz3)
              have c0' := (hk0.cell (p := ⟨w.heap.size, 0, none⟩) hw0).trans c0
              have c1' := (hk0.cell (p := ⟨w.heap.size, 1, none⟩) hw0).trans c1
              clear hb4 hk0 HR HSL HT c0 c1 hz4
              have hfl := tones_of (N : Int) ((S2 ||| 2 ^ d : Nat) : Int) w4
              go_wp2_with (at_builtin; refine wpList_append_row rfl _ _ rfl (gt + 1) _ (Tic.nearL N S y ++ nearH N S y j) rfl (HR1.out.alloc _) w4.heap.size 1 ((S2 ||| 2 ^ d : Nat) : Int) rfl ?c1 ?c2 ?c3 ?_)
              case c1 => go_simp
              case c2 => simp; omega
              case c3 => simp; omega
              intro v' w5 hrow hb5 hg5 hv5
              have hbA : Below w4.heap.size w4 (w4.alloc (.cells #[.int .i64 ((S2 ||| 2 ^ d : Nat) : Int)] 3)) := (Below.refl _ _).alloc (Nat.le_refl _) _
              have hzA : (w4.alloc (.cells #[.int .i64 ((S2 ||| 2 ^ d : Nat) : Int)] 3)).heap.size = w4.heap.size + 1 := by simp
              have hz6 := hb5.size
              have HR2 : Hid (Row w5 (gt + 1) v' (Tic.nearL N S y ++ nearH N S y (j + 1))) := by
                show Row _ _ _ _
                rw [HNH.out, HMV.out]; simpa only [List.append_assoc] using hrow
              have HO2 : Hid (v'.ownBlock ≠ some gs) := fun e => by
                rcases hv5 with h | h
                · exact HO.out (h ▸ e)
                · rw [h] at e; injection e with e; omega
              have HSL2 : Hid (∀ j, j < 2 → w5.cell? ⟨gs, j, none⟩ = some (.int .i64 (stepTo y j))) := fun j hj =>
                (hg5.cell_far ⟨gs, j, none⟩ (by rw [hzA]; show gs < _; omega) (fun e => HO.out e.symm)).trans ((hbA.cell (p := ⟨gs, j, none⟩) (by show gs < _; omega)).trans (HSL1.out j hj))
              have hbX : Below (gt + 1) w4 w5 := ((Below.refl (gt + 1) w4).alloc (by omega) _).trans hb5
              have HT2 := Lib.hid (fun i hi => (hbX.cell (p := ⟨gt, i, none⟩) (by show gt < _; omega)).trans (HT1.out i hi))
              have d0 := (hbX.cell (p := ⟨w.heap.size, 0, none⟩) (by show w.heap.size < _; omega)).trans c0'
              have d1 := (hbX.cell (p := ⟨w.heap.size, 1, none⟩) (by show w.heap.size < _; omega)).trans c1'
              have hbel5 := hbel4.trans (hbX.mono (by omega))
              clear hrow hb5 hg5 hv5 hbA hbX HR1 HSL1 HT1 c0' c1' HO
              go_wp2
              go_roundw
              case rel => exact ⟨j + 1, by omega, by go_num, HR2, HO2, HSL2, HT2, d0, d1, by omega, hbel5⟩
              case measure => simp [intOf]; omega
          · obtain rfl : j = 2 := by omega
            have HN2 := Lib.hid (nearL_next (n := N) HYB.out)
            have HLN := Lib.hid (tonesTo_next HYB.out)
            go_wp2
            go_roundw
            case rel => exact ⟨y + 1, i + 1, by omega, by omega, by go_num, by rw [HLN.out, HY.out], by rw [HN2.out]; exact HR, HT, c0, c1, by omega, hbel⟩
            case measure => simp [intOf]; omega
      · obtain rfl : i = l := by omega
        have hsz := hbel.size
        have hLY := Lib.hid (nearL_eq (n := N) (HYL.out.trans HL.out.symm))
        go_wp2_with fail
        refine (sort_row _ _ _ _ HR.out).mono ?_; rintro e w2 ⟨rfl, hrow, hg⟩
        rw [← hLY.out, HSO.out] at hrow
        have HL2 := Lib.hid hrow
        have HB2 := Lib.hid (hbel.grown hg (by omega) (fun j hj => by have := HR.out.own_ge hj; omega))
        clear hrow hg
        go_wp2_with fail
        go_ret
        exact ⟨_, rfl, HL2.out.mono (by omega), HB2.out⟩

theorem iNearOf_yes (n s : Int) (w : World) (hv : Tic.Valid n s) :
    Calls Tro.prog 20 #[.int .i64 n, .int .i64 s] w (Gives (Tic.nearTo n.toNat s.toNat (2 ^ n.toNat)) w) := by
  go_enter Tro.func20, Tro.ntmps20
  go_wp2_with fail
  refine (implValid_yes _ _ _ hv).mono ?_; rintro e w1 ⟨rfl, rfl⟩
  go_wp2_with fail
  refine (near_any _ _ _ hv).mono ?_; rintro e w1 ⟨v, rfl, hr, hb⟩
  go_wp2_with fail
  go_ret
  exact ⟨v, rfl, hr, hb⟩
theorem iNearOf_no (n s : Int) (w : World) (hv : ¬ Tic.Valid n s) :
    Calls Tro.prog 20 #[.int .i64 n, .int .i64 s] w (Gives [] w) := by
  go_enter Tro.func20, Tro.ntmps20
  go_wp2_with fail
  refine (implValid_no _ _ _ hv).mono ?_; rintro e w1 ⟨rfl, rfl⟩
  go_wp2_with fail
  go_ret
  exact ⟨_, rfl, Row.nil _ _, Below.refl _ _⟩
theorem sNearOf_yes (n s : Int) (w : World) (hv : Tic.Valid n s) :
    Calls Tro.prog 21 #[.int .i64 n, .int .i64 s] w (Gives (Tic.nearTo n.toNat s.toNat (2 ^ n.toNat)) w) := by
  go_enter Tro.func21, Tro.ntmps21
  go_wp2_with fail
  refine (validSet_yes _ _ _ hv).mono ?_; rintro e w1 ⟨rfl, rfl⟩
  go_wp2_with fail
  refine (snear_any _ _ _ hv).mono ?_; rintro e w1 ⟨v, rfl, hr, hb⟩
  go_wp2_with fail
  go_ret
  exact ⟨v, rfl, hr, hb⟩
theorem sNearOf_no (n s : Int) (w : World) (hv : ¬ Tic.Valid n s) :
    Calls Tro.prog 21 #[.int .i64 n, .int .i64 s] w (Gives [] w) := by
  go_enter Tro.func21, Tro.ntmps21
  go_wp2_with fail
  refine (validSet_no _ _ _ hv).mono ?_; rintro e w1 ⟨rfl, rfl⟩
  go_wp2_with fail
  go_ret
  exact ⟨_, rfl, Row.nil _ _, Below.refl _ _⟩

end Go.Proofs.YtjgkignnfkbeaaaTro

/-
  PathTo of the program, where a sequential body stands for nearestTo.
-/
namespace Go.Proofs.YtjgkignnfkbeaaaTro
open Go.RowKit
set_option linter.unusedVariables false
set_option maxRecDepth 20000

/-- the first k near sets with how far they are -/
def chM (L : List Int) (D : Int → Nat) (k : Nat) : List (Int × Int) := (L.take k).map fun v => (v, (D v : Int))
theorem chM_len {L : List Int} {D : Int → Nat} {k : Nat} (h : k ≤ L.length) : (chM L D k).length = k := by simp [chM]; omega
theorem chM_next {L : List Int} {D : Int → Nat} {k : Nat} (h : k < L.length) : chM L D (k + 1) = chM L D k ++ [(L.getD k 0, (D (L.getD k 0) : Int))] := by
  unfold chM
  rw [take_next h, List.map_append]; rfl
theorem chM_at {L : List Int} {D : Int → Nat} {i : Nat} (h : i < L.length) : (chM L D L.length).getD i (0, 0) = (L.getD i 0, (D (L.getD i 0) : Int)) := by
  unfold chM
  rw [List.take_length, List.getD_eq_getElem?_getD, List.getElem?_map, List.getElem?_eq_getElem h, List.getD_eq_getElem?_getD, List.getElem?_eq_getElem h]; rfl
set_option maxHeartbeats 2000000 in
theorem stepTowards_any (n A B : Int) (w : World) (h : Voices n A B) (hne : A ≠ B) : Calls Tro.prog 56 #[.int .i64 n, .int .i64 A, .int .i64 B] w (Gives1 (onTo n.toNat B.toNat A.toNat : Int) w) := by
  have g1 := h.1.1
  have g2 := h.1.2.1
  have hB0 := h.2.1.2.2.1
  have hA0 := h.1.2.2.1
  have hAS : Lk n.toNat B.toNat A.toNat := h.symm.lk
  have hBl := valid_lt h.2.1
  have h0B : 0 < (tonesTo B.toNat n.toNat).length := h.symm.pos
  have hne' : A.toNat ≠ B.toNat := fun e => hne (by omega)
  have hpk := pick_is (chosen_some (n := n.toNat) (B := B.toNat) (S := A.toNat) (by omega) (by omega) hBl h0B hAS hne')
  have hL2 : 2 ≤ (nearS n.toNat A.toNat).length := by
    obtain ⟨p, q, hst, _⟩ := dst_step (n := n.toNat) (A := A.toNat) (B := B.toNat) (by omega) (by omega) hAS.1 hBl hAS.2 h0B hne'
    exact nearS_two (by omega) (by omega) hAS.1 hst
  obtain ⟨_, _, hon⟩ := on_is (n := n.toNat) (B := B.toNat) (S := A.toNat) (by omega) (by omega) hBl h0B hAS hne'
  have hLl := nearS_len (n := n.toNat) (S := A.toNat) (by omega) (by omega) hAS.1
  have HNE : Hid (∀ w, Calls Tro.prog 20 #[.int .i64 n, .int .i64 A] w (Gives (nearS n.toNat A.toNat) w)) := Lib.hid (fun w => iNearOf_yes n A w h.1)
  have HST : Hid (∀ i w, i < (nearS n.toNat A.toNat).length → Calls Tro.prog 26 #[.int .i64 n, .int .i64 ((nearS n.toNat A.toNat).getD i 0), .int .i64 B] w (Gives1 (dst n.toNat ((nearS n.toNat A.toNat).getD i 0).toNat B.toNat : Int) w)) := Lib.hid (fun i w hi => by
    obtain ⟨Y, e, hY, _⟩ := near_lk (n := n.toNat) (B := B.toNat) (S := A.toNat) (by omega) (by omega) hAS hi
    rw [e]
    have hYV : Tic.Valid n (Y : Int) := ⟨g1, g2, by omega, by have := hY.1; omega⟩
    have hV : Voices n (Y : Int) B := ⟨hYV, h.2.1, fun e => by
      have : Y = 0 := by omega
      subst this
      have h1 := hY.2
      have : ∀ k, (tonesTo 0 k).length = 0 := fun k => by
        induction k with
        | zero => rfl
        | succ k ih => rw [tonesTo_no (Nat.zero_testBit k)]; exact ih
      rw [this] at h1; omega, by rw [wt_len hYV, wt_len h.2.1, Int.toNat_natCast]; exact hY.2⟩
    exact iStepsTo_yes n _ B w hV)
  have HFA : Hid (∀ j, j < (nearS n.toNat A.toNat).length → dst n.toNat A.toNat B.toNat ≤ dst n.toNat ((nearS n.toNat A.toNat).getD j 0).toNat B.toNat + 1) := Lib.hid (fun j hj => by
    obtain ⟨Y, e, hY, h2⟩ := near_lk (n := n.toNat) (B := B.toNat) (S := A.toNat) (by omega) (by omega) hAS hj
    rw [e, Int.toNat_natCast]; exact h2)
  obtain ⟨hp1, hp2, hp3⟩ := hpk
  have HR := Lib.hid ((nrT_pick (L := nearS n.toNat A.toNat) (D := fun v => dst n.toNat v.toNat B.toNat) hp2 hp3 HFA.out hp1 ((nearS n.toNat A.toNat).length - 1) (by omega)).2 (by omega))
  rw [← hon]
  generalize pick n.toNat B.toNat A.toNat = I at *
  generalize nearS n.toNat A.toNat = L at *
  have hD : ∃ D : Int → Nat, D = fun v => dst n.toNat v.toNat B.toNat := ⟨_, rfl⟩
  obtain ⟨D, hD⟩ := hD
  have HST2 : Hid (∀ i w, i < L.length → Calls Tro.prog 26 #[.int .i64 n, .int .i64 (L.getD i 0), .int .i64 B] w (Gives1 (D (L.getD i 0) : Int) w)) := Lib.hid (fun i w hi => by rw [hD]; exact HST.out i w hi)
  have HR2 : Hid (nrT (L.getD 0 0, (D (L.getD 0 0) : Int)) (fun i => (L.getD (i + 1) 0, (D (L.getD (i + 1) 0) : Int))) (L.length - 1) = (L.getD I 0, (D (L.getD I 0) : Int))) := Lib.hid (by rw [hD]; exact HR.out)
  clear HR
  have HR := HR2
  clear HR2
  clear HST HFA hp2 hp3 hon hD
  obtain ⟨m, hm⟩ : ∃ m, m = L.length := ⟨_, rfl⟩
  have HM := Lib.hid hm
  rw [← hm] at hp1 hLl hL2 HR HST2
  have hm0 : 0 < m := by omega
  clear hm hp1 h
  go_enter Tro.func56, Tro.ntmps56
  go_wp2_with fail
  refine (HNE.out _).mono ?_; rintro e w1 ⟨v, rfl, hr, hb1⟩
  obtain ⟨g, c, rfl, hg, hgl, hcell, _⟩ := hr.cases.resolve_left (fun q => by have := HM.out; rw [q.2] at this; simp at this; omega)
  rw [← HM.out] at hcell ⊢
  have HC := Lib.hid hcell
  have HB1 := Lib.hid hb1
  have hz1 := hb1.size
  clear hcell hr hb1
  go_wp2
  go_loopw [7, 9, 14] (fun t7 t9 t14 wr => ∃ i : Nat, i ≤ m ∧ t14 = .int .i64 i ∧ Hid (Chs wr w1.heap.size t7 (chM L D i)) ∧ Hid (Below w1.heap.size w1 wr)) (fun _ _ t14 _ => m - (intOf t14).toNat)
  case atStart => exact ⟨0, Nat.zero_le _, rfl, Chs.nil _ _, Below.refl _ _⟩
  case round =>
    obtain ⟨i, hi, rfl, HCH, HBI⟩ := hrel
    by_cases hlt : i < m
    · have c0 := (HBI.out.cell (p := ⟨g, i, none⟩) hgl).trans (HC.out i hlt)
      have HS := Lib.hid (fun w => HST2.out i w hlt)
      have HNX := Lib.hid (chM_next (D := D) (by have := HM.out; omega : i < L.length))
      have HLN : Hid ((chM L D i).length < 64) := Lib.hid (by rw [chM_len (by have := HM.out; omega)]; omega)
      have hzr := HBI.out.size
      generalize L.getD i 0 = y at *
      generalize chM L D i = M at *
      generalize D y = d at *
      have i0 : (0 : Int) ≤ (i : Int) := by omega
      have i1 : (i : Int) < (m : Int) := by omega
      have k1 := IntWalk.i64_in ((i : Int) + 1) (by omega)
      go_wp2_with fail
      refine (HS.out _).mono ?_; rintro e w2 ⟨rfl, hb2⟩
      have HB2 := Lib.hid (HBI.out.trans (hb2.mono hzr))
      have HCH2 := Lib.hid (HCH.out.kept hb2)
      have hz2 := HB2.out.size
      clear hb2 HCH HBI c0
      go_wp2_with (at_builtin; refine wpList_append_ch rfl _ _ rfl w1.heap.size _ M rfl (Chs.kept HCH2.out ((Below.refl _ _).alloc (Nat.le_refl _) _)) w2.heap.size 1 (y, (d : Int)) rfl (ch_new _ _ _ _ _ rfl) ?c2 ?c3 ?_)
      case c2 => exact HLN.out
      case c3 => simp; omega
      intro v' w3 hrow hb3
      have HR1 := Lib.hid hrow
      have HB3 := Lib.hid ((HB2.out.alloc hz2 (.cells #[.int .i64 y, .int .i64 (d : Int)] 49)).trans hb3)
      clear hrow hb3
      go_wp2
      go_roundw
      case rel => exact ⟨i + 1, by omega, by go_num, by rw [HNX.out]; exact HR1, HB3⟩
      case measure => simp [intOf]; omega
    · obtain rfl : i = m := by omega
      obtain ⟨g', cap, rfl, hg', hgl', hcap, hcell⟩ := HCH.out.cases (by rw [chM_len (by have := HM.out; omega)]; omega)
      rw [chM_len (by have := HM.out; omega)] at hcap hcell ⊢
      have hat : ∀ j, j < i → (chM L D i).getD j (0, 0) = (L.getD j 0, (D (L.getD j 0) : Int)) := fun j hj => by
        have := HM.out
        rw [this]; exact chM_at (by omega)
      have hc1 : ¬ cap = 1 := by omega
      have hc2 : (1 : Int) ≤ (cap : Int) := by omega
      have hc3 : (i : Int) ≤ (cap : Int) := by omega
      have hc4 : (1 : Int) ≤ (i : Int) := by omega
      have hc5 : (0 : Int) < (i : Int) := by omega
      have hc7 : ¬ i = 0 := by omega
      have hc8 : 1 ≤ i := by omega
      have HCL : Hid (∀ W, Below wr.heap.size wr W → W.cell? ⟨g', 0, none⟩ = some (.int .i64 (L.getD 0 0)) ∧ W.cell? ⟨g', 1, none⟩ = some (.int .i64 (D (L.getD 0 0) : Int))) := Lib.hid (fun W hW => by
        obtain ⟨h1, h2⟩ := hcell 0 (by omega)
        rw [hat 0 (by omega)] at h1 h2
        exact ⟨(hW.cell (p := ⟨g', 0, none⟩) hgl').trans (by simpa using h1), (hW.cell (p := ⟨g', 1, none⟩) hgl').trans (by simpa using h2)⟩)
      have HNEA : Hid (∀ W, Below wr.heap.size wr W → Calls Tro.prog 58 #[.agg #[.int .i64 (L.getD 0 0), .int .i64 (D (L.getD 0 0) : Int)], .slice (some ⟨g', 2, none⟩) (i - 1) (cap - 1)] W fun e w' => e = .returned (.agg #[.int .i64 (L.getD I 0), .int .i64 (D (L.getD I 0) : Int)]) ∧ Below W.heap.size W w') := Lib.hid (fun W hW => by
        have := nearest_any (L.getD 0 0, (D (L.getD 0 0) : Int)) (fun i => (L.getD (i + 1) 0, (D (L.getD (i + 1) 0) : Int))) (i - 1) (cap - 1) g' 2 W (by omega) (by omega) (Nat.lt_of_lt_of_le hgl' hW.size) (fun j hj => by
          obtain ⟨h1, h2⟩ := hcell (j + 1) (by omega)
          rw [hat (j + 1) (by omega)] at h1 h2
          refine ⟨(hW.cell (p := ⟨g', 2 + j * 2, none⟩) hgl').trans ?_, (hW.cell (p := ⟨g', 2 + j * 2 + 1, none⟩) hgl').trans ?_⟩
          · rw [show 2 + j * 2 = (j + 1) * 2 by omega]; exact h1
          · rw [show 2 + j * 2 + 1 = (j + 1) * 2 + 1 by omega]; exact h2)
        rw [HR.out] at this
        exact this)
      have HBW := Lib.hid (HB1.out.trans (HBI.out.mono hz1))
      have hzr : w.heap.size ≤ wr.heap.size := HBW.out.size
      have hnl : ¬ ((i : Int) < (i : Int)) := by omega
      generalize L.getD 0 0 = y0 at *
      generalize L.getD I 0 = yI at *
      generalize D y0 = d0 at *
      generalize D yI = dI at *
      clear hcell hat HCH HBI HR HST2 HNE HC HB1
      go_upto_region 7 with fail
      have hk0 : Below wr.heap.size wr wr := Below.refl _ _
      go_region_held3 (fun W => W.cell? ⟨g', 0, none⟩ = some (.int .i64 y0) ∧ W.cell? ⟨g', 1, none⟩ = some (.int .i64 (d0 : Int)))
        (exact HCL.out _ (by first | exact HK1.out | exact HK1.out.drew | exact hk0 | exact hk0.drew))
        (first
          | (go_at_call 58; refine (HNEA.out _ (by first | exact hk0 | exact hk0.drew)).mono ?_; rintro e w2 ⟨rfl, hb⟩; have hfl := number_of yI (dI : Int); have HK1 : Hid (Below wr.heap.size wr w2) := Lib.hid (by first | exact grow1 hk0 hb | exact grow0 hk0 hb); clear hb)
          | fail)
      all_goals
        have HBB := Lib.hid (HBW.out.trans (HK1.out.mono hzr))
        go_wp2
        go_ret
        exact ⟨rfl, HBB.out⟩
end Go.Proofs.YtjgkignnfkbeaaaTro

/-
  PathTo of the program and of the model, where a sequential body stands for nearestTo.
-/
namespace Go.Proofs.YtjgkignnfkbeaaaTro
open Go.RowKit
set_option linter.unusedVariables false
set_option maxRecDepth 20000

/-- the whole way -/
noncomputable def wayL (n A B : Int) : List Int := pathL n.toNat B.toNat A.toNat (dst n.toNat A.toNat B.toNat)
theorem dst_144 {n A B : Nat} (h : n ≤ 12) : dst n A B ≤ 144 := by
  have h1 := (prF_bd n (tonesTo A n) (tonesTo B n) (tonesTo A n).length).1
  have h2 : n * n ≤ 12 * 12 := Nat.mul_le_mul h h
  exact Nat.le_trans h1 h2
theorem valid_of {n B : Int} {S : Nat} (hv : Tic.Valid n B) (h : Lk n.toNat B.toNat S) : Tic.Valid n (S : Int) := ⟨hv.1, hv.2.1, by omega, by have := h.1; omega⟩
theorem zero_tones (k : Nat) : (tonesTo 0 k).length = 0 := by
  induction k with
  | zero => rfl
  | succ k ih => rw [tonesTo_no (Nat.zero_testBit k)]; exact ih
theorem voices_of {n B : Int} {S : Nat} (hv : Tic.Valid n B) (h0 : 0 < (tonesTo B.toNat n.toNat).length) (h : Lk n.toNat B.toNat S) : Voices n (S : Int) B :=
  ⟨valid_of hv h, hv, fun e => by
    have : S = 0 := by omega
    subst this
    have h1 := h.2
    rw [zero_tones] at h1; omega, by rw [wt_len (valid_of hv h), wt_len hv, Int.toNat_natCast]; exact h.2⟩
theorem iPathTo_no (n A B : Int) (w : World) (h : ¬ Voices n A B) : Calls Tro.prog 29 #[.int .i64 n, .int .i64 A, .int .i64 B] w (Gives [] w) := by
  have HV : Hid (∀ w, Calls Tro.prog 41 #[.int .i64 n, .int .i64 A, .int .i64 B] w fun e w' => e = .returned (.bool false) ∧ Below w.heap.size w w') := Lib.hid (fun w => by have := validVoices_any n A B w; rw [vv_no h] at this; exact this)
  go_enter Tro.func29, Tro.ntmps29
  go_wp2_with fail
  refine (HV.out _).mono ?_; rintro e w1 ⟨rfl, hb1⟩
  go_wp2_with fail
  go_ret
  exact ⟨_, rfl, Row.nil _ _, hb1⟩
set_option maxHeartbeats 800000 in
theorem iPathTo_yes (n A B : Int) (w : World) (h : Voices n A B) : Calls Tro.prog 29 #[.int .i64 n, .int .i64 A, .int .i64 B] w (Gives (wayL n A B) w) := by
  have HV : Hid (∀ w, Calls Tro.prog 41 #[.int .i64 n, .int .i64 A, .int .i64 B] w fun e w' => e = .returned (.bool true) ∧ Below w.heap.size w w') := Lib.hid (fun w => by have := validVoices_any n A B w; rw [vv_yes h] at this; exact this)
  have g1 := h.1.1
  have g2 := h.1.2.1
  have h0B := h.symm.pos
  have hBl := valid_lt h.2.1
  have hB0 := h.2.1.2.2.1
  have hA0 := h.1.2.2.1
  have HPT := Lib.hid (pts_is (n := n.toNat) (B := B.toNat) (A := A.toNat) (by omega) (by omega) hBl h0B h.symm.lk)
  have hd := dst_144 (n := n.toNat) (A := A.toNat) (B := B.toNat) (by omega)
  have HDP := Lib.hid (fun (S : Nat) (hS : Lk n.toNat B.toNat S) => dst_pos (n := n.toNat) (A := S) (B := B.toNat) (by omega) (by omega) hS.1 hBl hS.2 h0B)
  have HST : Hid (∀ (S : Nat) (w : World), Lk n.toNat B.toNat S → S ≠ B.toNat → Calls Tro.prog 56 #[.int .i64 n, .int .i64 (S : Int), .int .i64 B] w (Gives1 (onTo n.toNat B.toNat S : Int) w)) := Lib.hid (fun S w hS hne => stepTowards_any n (S : Int) B w (voices_of h.2.1 h0B hS) (fun e => hne (by omega)))
  have hp0 : pathL n.toNat B.toNat A.toNat 0 = [A] := by
    show [((A.toNat : Nat) : Int)] = [A]
    rw [show ((A.toNat : Nat) : Int) = A by omega]
  have ha0 : A = ((pts n.toNat B.toNat A.toNat 0 : Nat) : Int) := by show A = ((A.toNat : Nat) : Int); omega
  obtain ⟨Bn, hBn⟩ := Int.eq_ofNat_of_zero_le hB0
  subst hBn
  rw [Int.toNat_natCast] at *
  unfold wayL
  rw [Int.toNat_natCast]
  have HA0 := Lib.hid ha0
  clear h ha0
  go_enter Tro.func29, Tro.ntmps29
  go_wp2_with fail
  refine (HV.out _).mono ?_; rintro e w1 ⟨rfl, hb1⟩
  have HB1 := Lib.hid hb1
  have hz1 := hb1.size
  clear hb1
  have HR0 : Hid (Row (w1.alloc (.cells #[.int .i64 A] 3)) w.heap.size (.slice (some ⟨w1.heap.size, 0, none⟩) 1 1) (pathL n.toNat Bn A.toNat 0)) := Lib.hid (by rw [hp0]; exact ⟨World.ownsRow_lit w1 #[.int .i64 A] 1 hz1 (by decide) rfl, by simp⟩)
  have HB2 := Lib.hid (HB1.out.alloc hz1 (.cells #[.int .i64 A] 3))
  clear hp0
  go_upto_region 4 with fail
  generalize w1.alloc (.cells #[.int .i64 A] 3) = W1 at *
  generalize Value.slice (some ⟨w1.heap.size, 0, none⟩) 1 1 = v0 at *
  go_wp2
  go_loopw [7, 8] (fun t7 t8 wr => ∃ i : Nat, i ≤ dst n.toNat A.toNat Bn ∧ t8 = .int .i64 (pts n.toNat Bn A.toNat i : Int) ∧ Hid (Row wr w.heap.size t7 (pathL n.toNat Bn A.toNat i)) ∧ Hid (Below w.heap.size w wr)) (fun _ t8 _ => dst n.toNat (intOf t8).toNat Bn)
  case atStart => exact ⟨0, Nat.zero_le _, by rw [← HA0.out], HR0, HB2⟩
  case round =>
    obtain ⟨i, hi, rfl, HR, HBI⟩ := hrel
    obtain ⟨hLk, hdd⟩ := HPT.out i hi
    have hz := HBI.out.size
    by_cases hlt : i < dst n.toNat A.toNat Bn
    · have hne : pts n.toNat Bn A.toNat i ≠ Bn := fun e => by
        have := (HDP.out _ hLk).2 e; omega
      have HS := Lib.hid (fun w => HST.out _ w hLk hne)
      have hdn := (HPT.out (i + 1) hlt).2
      have HNX : Hid (pathL n.toNat Bn A.toNat (i + 1) = pathL n.toNat Bn A.toNat i ++ [(pts n.toNat Bn A.toNat (i + 1) : Int)]) := Lib.hid rfl
      have HLN : Hid ((pathL n.toNat Bn A.toNat i).length < 4096) := Lib.hid (by rw [pathL_len]; omega)
      have HON : Hid (onTo n.toNat Bn (pts n.toNat Bn A.toNat i) = pts n.toNat Bn A.toNat (i + 1)) := Lib.hid rfl
      rw [HON.out] at HS
      generalize pathL n.toNat Bn A.toNat i = P at *
      generalize pts n.toNat Bn A.toNat i = X at *
      have HY : Hid (∃ Y, Y = pts n.toNat Bn A.toNat (i + 1)) := Lib.hid ⟨_, rfl⟩
      obtain ⟨Y, hY⟩ := HY.out
      rw [← hY] at HS hdn HNX
      have HYY := Lib.hid hY
      clear hY HON HY
      have hnb : ¬ (X : Int) = (Bn : Int) := by omega
      have hnq : ((X : Int) == (Bn : Int)) = false := beq_eq_false_iff_ne.2 hnb
      go_wp2_with fail
      refine (HS.out _).mono ?_; rintro e w2 ⟨rfl, hb2⟩
      have HR2 := Lib.hid (HR.out.kept hb2)
      have HB3 := Lib.hid (HBI.out.trans (hb2.mono hz))
      have hz2 := HB3.out.size
      clear hb2 HR HBI
      go_wp2_with (at_builtin; refine wpList_append_int rfl _ _ rfl w.heap.size _ P rfl (HR2.out.alloc _) w2.heap.size 1 Y rfl ?c1 ?c2 ?c3 ?_)
      case c1 => go_simp
      case c2 => exact HLN.out
      case c3 => simp; omega
      intro v' w3 hrow hb3
      have HR3 := Lib.hid hrow
      have HB4 := Lib.hid ((HB3.out.alloc hz2 (.cells #[.int .i64 (Y : Int)] 3)).trans hb3)
      clear hrow hb3
      go_wp2
      go_roundw
      case rel => exact ⟨i + 1, hlt, by rw [HYY.out], by rw [HNX.out]; exact HR3, HB4⟩
      case measure => simp [intOf]; omega
    · obtain rfl : i = dst n.toNat A.toNat Bn := by omega
      have e : pts n.toNat Bn A.toNat (dst n.toNat A.toNat Bn) = Bn := (HDP.out _ hLk).1 (by omega)
      rw [e]
      go_wp2
      go_ret
      exact ⟨_, rfl, HR.out, HBI.out⟩
end Go.Proofs.YtjgkignnfkbeaaaTro

/-
  PathTo of the model, and the walk of FnExactPathTo, where a sequential body stands for nearestTo.
-/
namespace Go.Proofs.YtjgkignnfkbeaaaTro
open Go.RowKit
set_option linter.unusedVariables false
set_option maxRecDepth 20000

theorem sPathTo_no (n A B : Int) (w : World) (h : ¬ Voices n A B) : Calls Tro.prog 30 #[.int .i64 n, .int .i64 A, .int .i64 B] w (Gives [] w) := by
  have HV : Hid (∀ w, Calls Tro.prog 44 #[.int .i64 n, .int .i64 A, .int .i64 B] w fun e w' => e = .returned (.bool false) ∧ w = w') := Lib.hid (fun w => by have := validPair_any n A B w; rw [vv_no h] at this; exact this)
  go_enter Tro.func30, Tro.ntmps30
  go_wp2_with fail
  refine (HV.out _).mono ?_; rintro e w1 ⟨rfl, rfl⟩
  go_wp2_with fail
  go_ret
  exact ⟨_, rfl, Row.nil _ _, Below.refl _ _⟩
set_option maxHeartbeats 1600000 in
theorem sPathTo_yes (n A B : Int) (w : World) (h : Voices n A B) : Calls Tro.prog 30 #[.int .i64 n, .int .i64 A, .int .i64 B] w (Gives (wayL n A B) w) := by
  have HV : Hid (∀ w, Calls Tro.prog 44 #[.int .i64 n, .int .i64 A, .int .i64 B] w fun e w' => e = .returned (.bool true) ∧ w = w') := Lib.hid (fun w => by have := validPair_any n A B w; rw [vv_yes h] at this; exact this)
  have g1 := h.1.1
  have g2 := h.1.2.1
  have h0B := h.symm.pos
  have hBl := valid_lt h.2.1
  have hB0 := h.2.1.2.2.1
  have hA0 := h.1.2.2.1
  have hVB := h.2.1
  have HF := Lib.hid (fun w => fars_any n B w h.2.1 h.ne0)
  have HPT := Lib.hid (pts_is (n := n.toNat) (B := B.toNat) (A := A.toNat) (by omega) (by omega) hBl h0B h.symm.lk)
  have hd := dst_144 (n := n.toNat) (A := A.toNat) (B := B.toNat) (by omega)
  have HDP := Lib.hid (fun (S : Nat) (hS : Lk n.toNat B.toNat S) => dst_pos (n := n.toNat) (A := S) (B := B.toNat) (by omega) (by omega) hS.1 hBl hS.2 h0B)
  have HNR : Hid (∀ (S : Nat) (w : World), Lk n.toNat B.toNat S → Calls Tro.prog 53 #[.int .i64 n, .int .i64 (S : Int)] w (Gives (nearS n.toNat S) w)) := Lib.hid (fun S w hS => by
    have := snear_any n (S : Int) w (valid_of hVB hS)
    rw [Int.toNat_natCast] at this; exact this)
  have HNK := Lib.hid (fun (S : Nat) (hS : Lk n.toNat B.toNat S) => @near_lk n.toNat B.toNat S (by omega) (by omega) hS)
  have HPK := Lib.hid (fun (S : Nat) (hS : Lk n.toNat B.toNat S) (hne : S ≠ B.toNat) => (pick_is (chosen_some (by omega) (by omega) hBl h0B hS hne) : Chosen n.toNat B.toNat S (pick n.toNat B.toNat S)))
  have HON := Lib.hid (fun (S : Nat) (hS : Lk n.toNat B.toNat S) (hne : S ≠ B.toNat) => (on_is (by omega) (by omega) hBl h0B hS hne).2.2)
  have HLL := Lib.hid (fun (S : Nat) (hS : Lk n.toNat B.toNat S) => @nearS_len n.toNat S (by omega) (by omega) hS.1)
  have hp0 : pathL n.toNat B.toNat A.toNat 0 = [A] := by
    show [((A.toNat : Nat) : Int)] = [A]
    rw [show ((A.toNat : Nat) : Int) = A by omega]
  have ha0 : A = ((pts n.toNat B.toNat A.toNat 0 : Nat) : Int) := by show A = ((A.toNat : Nat) : Int); omega
  have HDB := Lib.hid (fun S => dst_144 (n := n.toNat) (A := S) (B := B.toNat) (by omega))
  have hpp := Tic.pow_le_12 (n := n) g2
  obtain ⟨Bn, hBn⟩ := Int.eq_ofNat_of_zero_le hB0
  subst hBn
  rw [Int.toNat_natCast] at *
  unfold wayL
  rw [Int.toNat_natCast]
  have HA0 := Lib.hid ha0
  have HLK : Hid (∀ S, Lk n.toNat Bn S → S < 2 ^ n.toNat) := Lib.hid (fun S hS => hS.1)
  generalize hpe : 2 ^ n.toNat = p at *
  clear h ha0 hVB hpe
  go_enter Tro.func30, Tro.ntmps30
  go_wp2_with fail
  refine (HV.out _).mono ?_; rintro e w1 ⟨rfl, rfl⟩
  go_wp2_with fail
  refine (HF.out _).mono ?_; rintro e w1 ⟨v, O, rfl, hr, hl, ho, hb1⟩
  obtain ⟨gO, cO, rfl, hgO, hgOl, hcO, _⟩ := hr.cases.resolve_left (fun q => by rw [q.2] at hl; simp at hl; omega)
  rw [hl] at hcO ⊢
  have HOC : Hid (∀ W, Below w1.heap.size w1 W → ∀ S, Lk n.toNat Bn S → W.cell? ⟨gO, S, none⟩ = some (.int .i64 (dst n.toNat S Bn : Int))) := Lib.hid (fun W hW S hS => by
    rw [← ho S hS]; exact (hW.cell (p := ⟨gO, S, none⟩) hgOl).trans (hcO S (HLK.out S hS)))
  have HB1 := Lib.hid hb1
  have hz1 := hb1.size
  have HR0 : Hid (Row (w1.alloc (.cells #[.int .i64 A] 3)) w1.heap.size (.slice (some ⟨w1.heap.size, 0, none⟩) 1 1) (pathL n.toNat Bn A.toNat 0)) := Lib.hid (by rw [hp0]; exact ⟨World.ownsRow_lit w1 #[.int .i64 A] 1 (Nat.le_refl _) (by decide) rfl, by simp⟩)
  have HB2 := Lib.hid ((Below.refl w1.heap.size w1).alloc (Nat.le_refl _) (.cells #[.int .i64 A] 3))
  clear hp0 hb1 hr hl ho hcO HF
  go_upto_region 5 with fail
  generalize w1.alloc (.cells #[.int .i64 A] 3) = W1 at *
  generalize Value.slice (some ⟨w1.heap.size, 0, none⟩) 1 1 = v0 at *
  go_wp2
  go_loopw [8, 9, 10, 11] (fun t8 t9 t10 t11 wr => ∃ i : Nat, i ≤ dst n.toNat A.toNat Bn ∧ t9 = .int .i64 (pts n.toNat Bn A.toNat i : Int) ∧ Hid (Row wr w1.heap.size t8 (pathL n.toNat Bn A.toNat i)) ∧ Hid (Below w1.heap.size w1 wr)) (fun _ t9 _ _ _ => dst n.toNat (intOf t9).toNat Bn)
  case atStart => exact ⟨0, Nat.zero_le _, by rw [← HA0.out], HR0, HB2⟩
  case round =>
    obtain ⟨i, hi, rfl, HR, HBI⟩ := hrel
    obtain ⟨hLk, hdd⟩ := HPT.out i hi
    have hz := HBI.out.size
    by_cases hlt : i < dst n.toNat A.toNat Bn
    · have hne : pts n.toNat Bn A.toNat i ≠ Bn := fun e => by
        have := (HDP.out _ hLk).2 e; omega
      have HS := Lib.hid (fun w => HNR.out _ w hLk)
      have hdn := (HPT.out (i + 1) hlt).2
      have HNX : Hid (pathL n.toNat Bn A.toNat (i + 1) = pathL n.toNat Bn A.toNat i ++ [(pts n.toNat Bn A.toNat (i + 1) : Int)]) := Lib.hid rfl
      have HLN : Hid ((pathL n.toNat Bn A.toNat i).length < 4096) := Lib.hid (by rw [pathL_len]; omega)
      have HOX : Hid ((nearS n.toNat (pts n.toNat Bn A.toNat i)).getD (pick n.toNat Bn (pts n.toNat Bn A.toNat i)) 0 = (pts n.toNat Bn A.toNat (i + 1) : Int)) := Lib.hid (HON.out _ hLk hne)
      have HCHN := Lib.hid (HPK.out _ hLk hne)
      have HNL := Lib.hid (fun j => HNK.out _ hLk (i := j))
      have hll := HLL.out _ hLk
      have hdb := HDB.out (pts n.toNat Bn A.toNat i)
      have hXp := HLK.out _ hLk
      generalize pathL n.toNat Bn A.toNat i = P at *
      generalize pts n.toNat Bn A.toNat i = X at *
      have HY : Hid (∃ Y, Y = pts n.toNat Bn A.toNat (i + 1)) := Lib.hid ⟨_, rfl⟩
      obtain ⟨Y, hY⟩ := HY.out
      rw [← hY] at hdn HNX HOX
      have HYY := Lib.hid hY
      clear hY HY
      unfold Chosen at HCHN
      generalize pick n.toNat Bn X = I at *
      generalize nearS n.toNat X = L at *
      have hnb : ¬ (X : Int) = (Bn : Int) := by omega
      have hnq : ((X : Int) == (Bn : Int)) = false := beq_eq_false_iff_ne.2 hnb
      go_wp2_with fail
      refine (HS.out _).mono ?_; rintro e w2 ⟨v2, rfl, hr2, hb2⟩
      have HR2 := Lib.hid (HR.out.kept hb2)
      have HB3 := Lib.hid (HBI.out.trans (hb2.mono hz))
      have hz2 := HB3.out.size
      obtain ⟨hI1, hI2, hI3⟩ := HCHN.out
      obtain ⟨gL, cL, rfl, hgL, hgLl, hcL, _⟩ := hr2.cases.resolve_left (fun q => by rw [q.2] at hI1; simp at hI1)
      have HCL := Lib.hid hcL
      have HI3 := Lib.hid hI3
      have HI2 := Lib.hid hI2
      obtain ⟨m, hm⟩ : ∃ m, m = L.length := ⟨_, rfl⟩
      rw [← hm] at hI1 hll HNL HCL ⊢
      clear hb2 HR HBI hr2 hcL hI3 hI2 hm HCHN
      go_upto_region 8 with fail
      go_wp2
      go_loopw [9, 11] (fun t9 t11 wr => ∃ j : Nat, j ≤ I ∧ t9 = .int .i64 (X : Int) ∧ t11 = .int .i64 (j : Int) ∧ Hid (Below w2.heap.size w2 wr)) (fun _ t11 _ => I + 1 - (intOf t11).toNat)
      case atStart => exact ⟨0, Nat.zero_le _, rfl, rfl, Below.refl _ _⟩
      case round =>
        obtain ⟨j, hj, rfl, rfl, HBJ⟩ := hrel
        obtain ⟨Yj, hYj, hYk, hYd⟩ := HNL.out j (by omega)
        have c0 := (HBJ.out.cell (p := ⟨gL, j, none⟩) hgLl).trans (HCL.out j (by omega))
        rw [hYj] at c0
        have HBB := Lib.hid (HB3.out.trans (HBJ.out.mono hz2))
        have cY := HOC.out _ HBB.out Yj hYk
        have cX := HOC.out _ HBB.out X hLk
        have hYp := HLK.out _ hYk
        have hdy := HDB.out Yj
        have j0 : (0 : Int) ≤ (j : Int) := by omega
        have j1 : (j : Int) < (m : Int) := by omega
        have y0 : (0 : Int) ≤ (Yj : Int) := by omega
        have y1 : (Yj : Int) < (p : Int) := by omega
        have x0 : (0 : Int) ≤ (X : Int) := by omega
        have x1 : (X : Int) < (p : Int) := by omega
        have k1 := IntWalk.i64_in ((j : Int) + 1) (by omega)
        by_cases hjI : j < I
        · have hnot := HI3.out j hjI
          rw [hYj, Int.toNat_natCast] at hnot
          generalize dst n.toNat Yj Bn = dY at *
          generalize dst n.toNat X Bn = dX at *
          have k2 := IntWalk.i64_in ((dX : Int) - 1) (by omega)
          have hq1 : ¬ (dY : Int) = (dX : Int) - 1 := by omega
          have hq2 : ((dY : Int) == (dX : Int) - 1) = false := beq_eq_false_iff_ne.2 hq1
          go_upto_region 11 with fail
          go_quiet (fail)
          have HBN := Lib.hid (below_dn HBJ.out nq)
          generalize World.drewN _ _ = W9 at *
          go_wp2
          go_roundw
          case rel => exact ⟨j + 1, by omega, rfl, by go_num, HBN⟩
          case measure => simp [intOf]; omega
        · obtain rfl : j = I := by omega
          have hyes := HI2.out
          rw [HOX.out] at hYj hyes
          obtain rfl : Y = Yj := by omega
          rw [Int.toNat_natCast] at hyes
          generalize hgY : dst n.toNat Y Bn = dY at *
          generalize hgX : dst n.toNat X Bn = dX at *
          have HGY := Lib.hid hgY
          have HGX := Lib.hid hgX
          clear hgY hgX
          have k2 := IntWalk.i64_in ((dX : Int) - 1) (by omega)
          have hq1 : (dY : Int) = (dX : Int) - 1 := by omega
          have hq2 : ((dY : Int) == (dX : Int) - 1) = true := by rw [hq1]; simp
          go_upto_region 11 with fail
          go_quiet (fail)
          have HBN := Lib.hid (below_dn HBJ.out nq)
          have c1 : (World.drewN wr nq).cell? ⟨gL, j, none⟩ = some (.int .i64 (Y : Int)) := c0
          generalize World.drewN _ _ = W9 at *
          clear c0 cY cX
          go_upto_region 13 with fail
          have HR3 := Lib.hid (HR2.out.kept HBN.out)
          have HB5 := Lib.hid (HB3.out.trans (HBN.out.mono hz2))
          have hz9 := HB5.out.size
          go_wp2_with (at_builtin; refine wpList_append_int rfl _ _ rfl w1.heap.size _ P rfl (HR3.out.alloc _) W9.heap.size 1 Y rfl ?d1 ?c2 ?c3 ?_)
          case c2 => exact HLN.out
          case c3 => first | (simp; omega) | omega
          intro v' w3 hrow hb3
          have HR4 := Lib.hid hrow
          have HB6 := Lib.hid ((HB5.out.alloc hz9 (.cells #[.int .i64 (Y : Int)] 3)).trans hb3)
          clear hrow hb3
          go_wp2
          go_roundw
          case rel => exact ⟨i + 1, hlt, by rw [HYY.out], by rw [HNX.out]; exact HR4, HB6⟩
          case measure => have e1 := HGY.out; have e2 := HGX.out; simp [intOf]; omega
    · obtain rfl : i = dst n.toNat A.toNat Bn := by omega
      have e : pts n.toNat Bn A.toNat (dst n.toNat A.toNat Bn) = Bn := (HDP.out _ hLk).1 (by omega)
      rw [e]
      go_wp2
      go_ret
      exact ⟨_, rfl, HR.out.mono hz1, HB1.out.trans (HBI.out.mono hz1)⟩
set_option maxHeartbeats 800000 in
theorem FnExactPathTo_core (a0 a1 a2 : Int) (L : List Int) (hs : ∀ w, Calls Tro.prog 30 #[.int .i64 a0, .int .i64 a1, .int .i64 a2] w (Gives L w)) (hi : ∀ w, Calls Tro.prog 29 #[.int .i64 a0, .int .i64 a1, .int .i64 a2] w (Gives L w)) (w : World) :
    Calls Tro.prog 10 #[.int .i64 a0, .int .i64 a1, .int .i64 a2] w fun e w' => e = .returned (.bool true) ∧ Below w.heap.size w w' := by
  have HS := Lib.hid hs
  have HI := Lib.hid hi
  clear hs hi
  go_enter Tro.func10, Tro.ntmps10
  go_wp2_with fail
  refine (HS.out _).mono ?_; rintro e w1 ⟨v0, rfl, r0, b1⟩
  have lt0 := Lib.hid (fun k hk => (r0.lt k hk).2)
  have R0 := Lib.hid r0
  have B1 := Lib.hid b1
  clear r0 b1
  go_wp2_with fail
  refine (HI.out _).mono ?_; rintro e w2 ⟨v1, rfl, r1, b2⟩
  have R1 := Lib.hid r1
  have R0' := Lib.hid (R0.out.kept b2)
  have hz2 := b2.size
  have B2 := Lib.hid (B1.out.trans (b2.mono B1.out.size))
  clear r1 b2 R0
  go_wp2_with fail
  refine (eqIntS_same _ _ _ _ _ _ R1.out R0'.out).mono ?_; rintro e w3 ⟨rfl, b3⟩
  have R1' := Lib.hid (R1.out.kept b3)
  have R0 := Lib.hid (R0'.out.kept b3)
  have hz3 := b3.size
  have B3 := Lib.hid (B2.out.trans (b3.mono B2.out.size))
  clear b3 R1 R0' B2
  go_wp2_with fail
  refine (markIntS_any _ _ _ _ _ R1'.out (by omega) (by omega) (by omega)).mono ?_; rintro e w4 ⟨rfl, r1, b4⟩
  have hz4 := b4.size
  have R1 := Lib.hid r1
  have R0' := Lib.hid (R0.out.low b4 lt0.out)
  have B4 := Lib.hid (B3.out.trans (b4.mono B1.out.size))
  clear r1 b4 R1' R0 B3
  go_wp2_with fail
  refine (held_marked _ _ _ _ _ R1.out (by omega) (by omega)).mono ?_; rintro e w4' ⟨rfl, rfl⟩
  go_wp2_with fail
  refine (HI.out _).mono ?_; rintro e w5 ⟨v2, rfl, r2, b5⟩
  have R2 := Lib.hid r2
  have R1' := Lib.hid (R1.out.kept b5)
  have R0 := Lib.hid (R0'.out.kept b5)
  have hz5 := b5.size
  have B5 := Lib.hid (B4.out.trans (b5.mono B4.out.size))
  clear r2 b5 R1 R0' B4
  go_wp2_with fail
  refine (eqIntS_same _ _ _ _ _ _ R2.out R0.out).mono ?_; rintro e w6 ⟨rfl, b6⟩
  have R1 := Lib.hid (R1'.out.kept b6)
  have B6 := Lib.hid (B5.out.trans (b6.mono B5.out.size))
  clear b6 R1' R0 B5
  go_wp2_with fail
  refine (held_marked _ _ _ _ _ R1.out (by omega) (by omega)).mono ?_; rintro e w6' ⟨rfl, rfl⟩
  go_wp2_with fail
  go_ret
  exact ⟨rfl, B6.out⟩
theorem FnExactPathTo_walk (a0 a1 a2 : Int) (w : World) :
    Calls Tro.prog 10 #[.int .i64 a0, .int .i64 a1, .int .i64 a2] w fun e w' => e = .returned (.bool true) ∧ Below w.heap.size w w' := by
  rcases Classical.em (Voices a0 a1 a2) with h | h
  · exact FnExactPathTo_core _ _ _ _ (fun w => sPathTo_yes _ _ _ w h) (fun w => iPathTo_yes _ _ _ w h) w
  · exact FnExactPathTo_core _ _ _ _ (fun w => sPathTo_no _ _ _ w h) (fun w => iPathTo_no _ _ _ w h) w
end Go.Proofs.YtjgkignnfkbeaaaTro

/-
  Contracts of the reader of drawn numbers: newReader, pick, one.
-/
namespace Go.Proofs.YtjgkignnfkbeaaaTro
open Go.RowKit
set_option linter.unusedVariables false

/-- a row of bytes that can be read -/
def Bytes (w : World) (x : Option Addr) (len : Nat) (zs : List Int) : Prop :=
  len = 0 ∨ ∃ g o, x = some ⟨g, o, none⟩ ∧ g < w.heap.size ∧ ∀ i, i < len → w.cell? ⟨g, o + i, none⟩ = some (.int .u8 (zs.getD i 0)) ∧ 0 ≤ zs.getD i 0 ∧ zs.getD i 0 ≤ 255

/-- the reader in block B has drawn p numbers -/
def Rd (w : World) (B p : Nat) : Prop := ∃ (x : Option Addr) (len cap : Nat) (zs : List Int), len ≤ 2000 ∧ w.cell? ⟨B, 0, none⟩ = some (.slice x len cap) ∧ w.cell? ⟨B, 1, none⟩ = some (.int .i64 p) ∧ w.frozen? ⟨B, 1, none⟩ = false ∧
  B < w.heap.size ∧ (len = 0 ∨ ∃ g o, x = some ⟨g, o, none⟩ ∧ g < B ∧ ∀ i, i < len → w.cell? ⟨g, o + i, none⟩ = some (.int .u8 (zs.getD i 0)) ∧ 0 ≤ zs.getD i 0 ∧ zs.getD i 0 ≤ 255)

/-- what a draw gives -/
def Picks (n : Int) (B p : Nat) (w : World) (e : Ending) (w' : World) : Prop :=
  ∃ r : Int, e = .returned (.int .i64 r) ∧ 0 ≤ r ∧ (1 ≤ n → r < n) ∧ (n < 1 → r = 0) ∧ Rd w' B (p + 1) ∧ w.grownBy w' (some B)

/-- the reader behind a draw -/
theorem Rd.step {w : World} {B p : Nat} (h : Rd w B p) : Rd (w.setCell ⟨B, 1, none⟩ (.int .i64 ((p : Int) + 1))) B (p + 1) ∧ w.grownBy (w.setCell ⟨B, 1, none⟩ (.int .i64 ((p : Int) + 1))) (some B) := by
  obtain ⟨x, len, cap, zs, hlen, c0, c1, f1, hB, hb⟩ := h
  refine ⟨⟨x, len, cap, zs, hlen, ?_, ?_, by simpa using f1, by simpa using hB, ?_⟩, ⟨rfl, rfl, rfl, by simp, fun k _ hk => heap_setCell_other w ⟨B, 1, none⟩ k _ (fun e => hk (by simp [e]))⟩⟩
  · rw [World.cell?_setCell_other _ _ _ _ (by simp)]; exact c0
  · exact World.cell?_setCell_same _ _ _ c1
  · rcases hb with hb | ⟨g, o, rfl, hg, hcell⟩
    · exact .inl hb
    · refine .inr ⟨g, o, rfl, hg, fun i hi => ?_⟩
      rw [World.cell?_setCell_other _ _ _ _ (by intro e; injection e with e1 e2 e3; omega)]; exact hcell i hi
theorem Rd.drew {w : World} {B p : Nat} (h : Rd w B p) : Rd w.drew B p := h
theorem grown_drew {w w' : World} {r : Option Nat} (h : w.grownBy w' r) : w.grownBy w'.drew r := ⟨h.os, h.tape, h.output, h.size, h.block⟩

theorem i64_xor_nat (a b : Nat) (ha : a < 4611686018427387904) (hb : b < 4611686018427387904) : bits .xor .i64 (a : Int) (b : Int) = ((a ^^^ b : Nat) : Int) := by
  have hx : a ^^^ b < 2 ^ 62 := Nat.xor_lt_two_pow (by omega) (by omega)
  show IntKind.i64.wrap ((BitVec.ofInt 64 (a : Int) ^^^ BitVec.ofInt 64 (b : Int)).toNat : Int) = _
  rw [BitVec.toNat_xor, ofInt_i64 a ha, ofInt_i64 b hb]
  exact IntWalk.i64_in _ (by omega)
theorem xor_bd {X : Int} (h0 : 0 ≤ X) (h1 : X ≤ 100000000) : 0 ≤ bits .xor .i64 X (X / 64) ∧ bits .xor .i64 X (X / 64) ≤ 1000000000 := by
  obtain ⟨N, rfl⟩ := Int.eq_ofNat_of_zero_le h0
  have e : (N : Int) / 64 = ((N / 64 : Nat) : Int) := by omega
  rw [e, i64_xor_nat N (N / 64) (by omega) (by omega)]
  have hx : N ^^^ (N / 64) < 2 ^ 27 := Nat.xor_lt_two_pow (by omega) (by omega)
  omega

set_option maxRecDepth 20000 in
set_option maxHeartbeats 1000000 in
theorem pick_any (n : Int) (B p : Nat) (w : World) (h : Rd w B p) (hp : p ≤ 10000) (hn : -1000 ≤ n) (hn2 : n ≤ 100000) :
    Calls Tro.prog 62 #[.pointer (some ⟨B, 0, none⟩), .int .i64 n] w (Picks n B p w) := by
  have HS := Lib.hid h.step
  obtain ⟨x, len, cap, zs, hlen, c0, c1, f1, hB, hb⟩ := h
  by_cases hz : n < 1
  · go_enter Tro.func62, Tro.ntmps62
    go_wp2
    go_ret
    exact ⟨0, rfl, Int.le_refl _, by omega, fun _ => rfl, HS.out.1, HS.out.2⟩
  · rcases hb with hb | ⟨g, o, rfl, hg, hcell⟩
    · subst hb
      go_enter Tro.func62, Tro.ntmps62
      go_wp2
      go_ret
      exact ⟨0, rfl, Int.le_refl _, by omega, fun _ => rfl, HS.out.1, HS.out.2⟩
    · by_cases hl0 : len = 0
      · subst hl0
        go_enter Tro.func62, Tro.ntmps62
        go_wp2
        go_ret
        exact ⟨0, rfl, Int.le_refl _, by omega, fun _ => rfl, HS.out.1, HS.out.2⟩
      · by_cases hpl : p < len
        · obtain ⟨h1, h2, h3⟩ := hcell p hpl
          generalize zs.getD p 0 = z at h1 h2 h3
          clear hcell
          go_enter Tro.func62, Tro.ntmps62
          go_wp2
          go_ret
          refine ⟨z % n, rfl, Int.emod_nonneg _ (by omega), fun _ => Int.emod_lt_of_pos _ (by omega), fun h => by omega, HS.out.1, HS.out.2⟩
        · obtain ⟨h1, h2, h3⟩ := hcell (p % len) (Nat.mod_lt _ (by omega))
          obtain ⟨h4, h5, h6⟩ := hcell ((p * 7 + 3) % len) (Nat.mod_lt _ (by omega))
          generalize zs.getD (p % len) 0 = z at h1 h2 h3
          generalize zs.getD ((p * 7 + 3) % len) 0 = y at h4 h5 h6
          clear hcell
          have i1 := Int.emod_nonneg (p : Int) (b := (len : Int)) (by omega)
          have i2 := Int.emod_lt_of_pos (p : Int) (b := (len : Int)) (by omega)
          have i3 := Int.emod_nonneg ((p : Int) * 7 + 3) (b := (len : Int)) (by omega)
          have i4 := Int.emod_lt_of_pos ((p : Int) * 7 + 3) (b := (len : Int)) (by omega)
          obtain ⟨i5, i6⟩ := Tic.div_bd p len
          go_enter Tro.func62, Tro.ntmps62
          go_wp2
          go_region
          have x0 : 0 ≤ z * 131 + y * 1117 + (p : Int) * 29 + (p : Int) / (len : Int) * 53 := by omega
          have x1 : z * 131 + y * 1117 + (p : Int) * 29 + (p : Int) / (len : Int) * 53 ≤ 100000000 := by omega
          clear i1 i2 i3 i4 i5 i6
          generalize z * 131 + y * 1117 + (p : Int) * 29 + (p : Int) / (len : Int) * 53 = X at x0 x1
          obtain ⟨y0, y1⟩ := xor_bd x0 x1
          go_wp2
          go_ret
          exact ⟨bits .xor .i64 X (X / 64) % n, rfl, Int.emod_nonneg _ (by omega), fun _ => Int.emod_lt_of_pos _ (by omega), fun h => by omega, HS.out.1, grown_drew HS.out.2⟩

/-- the reader was made; nothing that was there is written -/
def Made (w : World) (e : Ending) (w' : World) : Prop := e = .returned (.pointer (some ⟨w.heap.size, 0, none⟩)) ∧ Rd w' w.heap.size 0 ∧ Below w.heap.size w w' ∧ w.heap.size < w'.heap.size

theorem rd_new {w : World} {x : Option Addr} {len cap : Nat} {zs : List Int} {t : TypeId} (hl : len ≤ 2000) (hb : Bytes w x len zs) : Rd (w.alloc (.cells #[.slice x len cap, .int .i64 0] t)) w.heap.size 0 := by
  refine ⟨x, len, cap, zs, hl, ?_, ?_, ?_, by simp, ?_⟩
  · go_simp
  · go_simp
  · go_simp
  · rcases hb with hb | ⟨g, o, rfl, hg, hc⟩
    · exact .inl hb
    · refine .inr ⟨g, o, rfl, hg, fun i hi => ?_⟩
      obtain ⟨h1, h2, h3⟩ := hc i hi
      exact ⟨((Below.refl w.heap.size w).alloc (Nat.le_refl _) _ |>.cell (p := ⟨g, o + i, none⟩) hg).trans h1, h2, h3⟩

theorem newReader_any (x : Option Addr) (len cap : Nat) (zs : List Int) (w : World) (hb : Bytes w x len zs) (hlc : len ≤ cap) (hc : cap ≤ maxLen) :
    Calls Tro.prog 40 #[.slice x len cap] w (Made w) := by
  unfold maxLen at hc
  by_cases hl : len ≤ 2000
  · have HR := fun t => rd_new (t := t) (cap := cap) hl hb
    have HR := Lib.hid HR
    go_enter Tro.func40, Tro.ntmps40
    go_wp2
    go_ret
    exact ⟨rfl, HR.out _, (Below.refl _ _).alloc (Nat.le_refl _) _, by simp⟩
  · have hb2 : Bytes w x 2000 zs := by
      rcases hb with hb | ⟨g, o, rfl, hg, hc⟩
      · omega
      · exact .inr ⟨g, o, rfl, hg, fun i hi => hc i (by omega)⟩
    have HR := fun t => rd_new (t := t) (cap := cap) (Nat.le_refl 2000) hb2
    have HR := Lib.hid HR
    rcases hb with hb | ⟨g, o, rfl, hg, hc⟩
    · omega
    · clear hc
      go_enter Tro.func40, Tro.ntmps40
      go_wp2
      go_ret
      exact ⟨rfl, HR.out _, (Below.refl _ _).alloc (Nat.le_refl _) _, by simp⟩

/-- one of the numbers L is drawn -/
def Ones (L : List Int) (B p : Nat) (w : World) (e : Ending) (w' : World) : Prop := ∃ y, y ∈ L ∧ e = .returned (.int .i64 y) ∧ Rd w' B (p + 1) ∧ w.grownBy w' (some B)

theorem one_any (v : Value) (BL : Nat) (L : List Int) (B p : Nat) (w : World) (h : Rd w B p) (hp : p ≤ 10000) (hr : Row w BL v L) (hv : v.ownBlock ≠ some B) (hne : L ≠ []) (hl4 : L.length ≤ 4096) :
    Calls Tro.prog 80 #[.pointer (some ⟨B, 0, none⟩), v] w (Ones L B p w) := by
  have hl2 := hr.2
  have hl0 : 0 < L.length := List.length_pos_iff.2 hne
  have HK : Hid (∀ w', w.grownBy w' (some B) → Row w' BL v L) := fun w' hg => ⟨hr.1.kept hg (.inr hv), hr.2⟩
  rcases hr.cases with ⟨_, e⟩ | ⟨g, c, rfl, _, hg, hc, _⟩
  · exact absurd e hne
  generalize hn : L.length = n at hl2 hl0 hc hl4
  have HN := Lib.hid hn
  clear hn hc hv hne hr
  go_enter Tro.func80, Tro.ntmps80
  go_wp2_with fail
  refine (pick_any _ _ _ _ h hp (by omega) (by omega)).mono ?_; rintro e w1 ⟨r, rfl, h0, h1, _, hrd, hgr⟩
  have h2 := h1 (by omega)
  obtain ⟨R, rfl⟩ := Int.eq_ofNat_of_zero_le h0
  have hRn : R < n := by omega
  have hc1 : w1.cell? ⟨g, R, none⟩ = some (.int .i64 (L.getD R 0)) := by
    rcases (HK.out w1 hgr).cases with ⟨e, _⟩ | ⟨g', c', e, _, _, hc, _⟩
    · cases e
    · simp only [Value.slice.injEq, Option.some.injEq, Addr.mk.injEq, and_true, true_and] at e
      obtain ⟨rfl, _, rfl⟩ := e
      exact hc R (by rw [HN.out]; exact hRn)
  have hmem : L.getD R 0 ∈ L := by
    rw [List.getD_eq_getElem?_getD, List.getElem?_eq_getElem (by rw [HN.out]; exact hRn)]
    exact List.getElem_mem _
  have HM := Lib.hid hmem
  have HRD := Lib.hid hrd
  have HG := Lib.hid hgr
  clear hmem hrd hgr h1
  generalize L.getD R 0 = y at hc1 HM
  go_wp2
  go_ret
  exact ⟨y, HM.out, rfl, HRD.out, HG.out⟩

end Go.Proofs.YtjgkignnfkbeaaaTro

/-
  Contracts of the drawn arguments: circles, sets, shifts.
-/
namespace Go.Proofs.YtjgkignnfkbeaaaTro
open Go.RowKit
set_option linter.unusedVariables false

theorem grown_trans {a b c : World} {r : Option Nat} (h : a.grownBy b r) (k : b.grownBy c r) : a.grownBy c r :=
  ⟨k.os.trans h.os, k.tape.trans h.tape, k.output.trans h.output, Nat.le_trans h.size k.size, fun i hi hr => (k.block i (Nat.lt_of_lt_of_le hi h.size) hr).trans (h.block i hi hr)⟩
theorem grown_alloc (w : World) (o : Obj) (r : Option Nat) : w.grownBy (w.alloc o) r := World.grownBy_alloc w o r
theorem grown_below {w w' : World} {r : Option Nat} (hb : Below w.heap.size w w') : w.grownBy w' r := ⟨hb.os, hb.tape, hb.output, hb.size, fun k hk _ => hb.block k hk⟩
theorem Rd.kept {w w' : World} {B p : Nat} (h : Rd w B p) (hb : Below w.heap.size w w') : Rd w' B p := by
  obtain ⟨x, len, cap, zs, hlen, c0, c1, f1, hB, hb2⟩ := h
  refine ⟨x, len, cap, zs, hlen, (hb.cell (p := ⟨B, 0, none⟩) hB).trans c0, (hb.cell (p := ⟨B, 1, none⟩) hB).trans c1, (hb.frozen (p := ⟨B, 1, none⟩) hB).trans f1, Nat.lt_of_lt_of_le hB hb.size, ?_⟩
  rcases hb2 with hb2 | ⟨g, o, e, hg, hc⟩
  · exact .inl hb2
  · exact .inr ⟨g, o, e, hg, fun i hi => ⟨(hb.cell (p := ⟨g, o + i, none⟩) (Nat.lt_trans hg hB)).trans (hc i hi).1, (hc i hi).2⟩⟩
theorem Rd.alloc {w : World} {B p : Nat} (h : Rd w B p) (o : Obj) : Rd (w.alloc o) B p := h.kept ((Below.refl _ _).alloc (Nat.le_refl _) _)
theorem Rd.lt {w : World} {B p : Nat} (h : Rd w B p) : B < w.heap.size := by obtain ⟨_, _, _, _, _, _, _, _, hB, _⟩ := h; exact hB

/-- a number from lo to hi is drawn, by at most c draws -/
def Dr (lo hi : Int) (c B p : Nat) (w : World) (e : Ending) (w' : World) : Prop :=
  ∃ (y : Int) (p' : Nat), e = .returned (.int .i64 y) ∧ lo ≤ y ∧ y ≤ hi ∧ p' ≤ p + c ∧ Rd w' B p' ∧ w.grownBy w' (some B)

theorem row_lit (w : World) (L : List Int) (hl : L.length ≤ 4096) : Row (w.alloc (.cells (L.map (Value.int .i64)).toArray 3)) w.heap.size (.slice (some ⟨w.heap.size, 0, none⟩) L.length L.length) L := by
  refine ⟨?_, by omega⟩
  have := World.ownsRow_lit (base := w.heap.size) (e := 3) (size := 1) w (L.map (Value.int .i64)).toArray L.length (Nat.le_refl _) (by unfold maxLen; omega) (by simp)
  simpa using this

/-- one of the numbers of a list just written out -/
theorem one_lit (L : List Int) (cs : Array Value) (n : Nat) (lo hi : Int) (B p : Nat) (w : World) (hcs : cs = (L.map (Value.int .i64)).toArray) (hn : n = L.length) (h : Rd w B p) (hp : p ≤ 10000) (hl : L.length ≤ 4096) (hne : L ≠ [])
    (hlo : ∀ y ∈ L, lo ≤ y ∧ y ≤ hi) :
    Calls Tro.prog 80 #[.pointer (some ⟨B, 0, none⟩), .slice (some ⟨w.heap.size, 0, none⟩) n n] (w.alloc (.cells cs 3)) (Dr lo hi 1 B p w) := by
  subst hcs hn
  refine (one_any _ _ L B p _ (h.alloc _) hp (row_lit w L hl) ?_ hne hl).mono ?_
  · intro e
    have := h.lt
    simp [Value.ownBlock] at e
    omega
  · rintro e w' ⟨y, hy, rfl, hr, hg⟩
    exact ⟨y, p + 1, rfl, (hlo y hy).1, (hlo y hy).2, by omega, hr, grown_trans (grown_alloc _ _ _) hg⟩

theorem circle_any (B p : Nat) (w : World) (h : Rd w B p) (hp : p ≤ 9000) :
    Calls Tro.prog 72 #[.pointer (some ⟨B, 0, none⟩)] w (Dr (-1) 13 2 B p w) := by
  go_enter Tro.func72, Tro.ntmps72
  go_wp2_with fail
  refine (pick_any _ _ _ _ h (by omega) (by omega) (by omega)).mono ?_; rintro e w1 ⟨r, rfl, h0, h1, _, hrd, hgr⟩
  have HRD := Lib.hid hrd
  have HG := Lib.hid hgr
  clear hrd hgr h1
  by_cases hr : r = 0
  · subst hr
    go_wp2_with fail
    refine (one_lit [2, 13, 0, -1] _ _ (-1) 13 _ _ _ rfl rfl HRD.out (by omega) (by decide) (by decide) (by decide)).mono ?_; rintro e w2 ⟨y, p', rfl, y0, y1, hp', hrd, hgr⟩
    go_wp2_with fail
    go_ret
    exact ⟨y, p', rfl, y0, y1, by omega, hrd, grown_trans HG.out hgr⟩
  · go_wp2_with fail
    refine (one_lit [12, 7, 8, 12, 5, 6, 10, 9, 11, 4, 3] _ _ (-1) 13 _ _ _ rfl rfl HRD.out (by omega) (by decide) (by decide) (by decide)).mono ?_; rintro e w2 ⟨y, p', rfl, y0, y1, hp', hrd, hgr⟩
    go_wp2_with fail
    go_ret
    exact ⟨y, p', rfl, y0, y1, by omega, hrd, grown_trans HG.out hgr⟩

theorem spread_any (n k m : Int) (w : World) (h1 : 1 ≤ n) (h2 : n ≤ 12) (h3 : 1 ≤ k) (h4 : k ≤ 12) (h5 : 0 ≤ m) (h6 : m ≤ 12) :
    Calls Tro.prog 81 #[.int .i64 n, .int .i64 k, .int .i64 m] w fun e w' => ∃ y : Int, e = .returned (.int .i64 y) ∧ 0 ≤ y ∧ y ≤ 50000 ∧ w = w' := by
  obtain ⟨N, rfl⟩ := Int.eq_ofNat_of_zero_le (show 0 ≤ n by omega)
  obtain ⟨K, rfl⟩ := Int.eq_ofNat_of_zero_le (show 0 ≤ k by omega)
  obtain ⟨M, rfl⟩ := Int.eq_ofNat_of_zero_le h5
  have HP : Hid (∃ Q : Ending → World → Prop, Q = fun e w' => ∃ y : Int, e = .returned (.int .i64 y) ∧ 0 ≤ y ∧ y ≤ 50000 ∧ w = w') := ⟨_, rfl⟩
  obtain ⟨Q, hQ⟩ := HP.out
  rw [← hQ]
  have HQ := Lib.hid hQ
  clear hQ HP
  go_enter Tro.func81, Tro.ntmps81
  go_wp2
  go_loop [7, 8] (fun t7 t8 => ∃ i y : Nat, i ≤ K ∧ y ≤ i * 4096 ∧ t8 = .int .i64 i ∧ t7 = .int .i64 y) (fun _ t8 => K - (intOf t8).toNat)
  case atStart => exact ⟨0, 0, by omega, by omega, rfl, rfl⟩
  case round =>
    obtain ⟨i, y, hi, hy, rfl, rfl⟩ := hrel
    by_cases hlt : i < K
    · have a1 : i * N ≤ 144 := by have := Nat.mul_le_mul (show i ≤ 12 by omega) (show N ≤ 12 by omega); omega
      have a2 : (0 : Int) ≤ (i : Int) * (N : Int) := by rw [← Int.natCast_mul]; omega
      have a3 : (i : Int) * (N : Int) ≤ 144 := by rw [← Int.natCast_mul]; omega
      have a4 : 0 ≤ ((i : Int) * (N : Int) + (M : Int)) / (K : Int) := Int.ediv_nonneg (by omega) (by omega)
      have a5 : ((i : Int) * (N : Int) + (M : Int)) / (K : Int) ≤ 200 := by
        have := Int.ediv_le_self (K : Int) (show 0 ≤ (i : Int) * (N : Int) + (M : Int) by omega); omega
      have a6 := Int.emod_nonneg (((i : Int) * (N : Int) + (M : Int)) / (K : Int)) (b := (N : Int)) (by omega)
      have a7 := Int.emod_lt_of_pos (((i : Int) * (N : Int) + (M : Int)) / (K : Int)) (b := (N : Int)) (by omega)
      have hp : 2 ^ (((i : Int) * (N : Int) + (M : Int)) / (K : Int) % (N : Int)).toNat ≤ 4096 := Tic.pow_le_12 (by omega)
      go_wp2_with fail
      refine (power_any _ _ (by omega) (by omega)).mono ?_; rintro e w1 ⟨rfl, rfl⟩
      generalize 2 ^ (((i : Int) * (N : Int) + (M : Int)) / (K : Int) % (N : Int)).toNat = P at hp
      clear a1 a2 a3 a4 a5 a6 a7
      go_wp2
      go_round
      case rel => exact ⟨i + 1, y + P, by omega, by omega, by go_num, by go_num⟩
      case measure => simp [intOf]; omega
    · have : i = K := by omega
      subst this
      go_wp2
      rw [HQ.out]
      exact ⟨y, rfl, by omega, by omega, rfl⟩

theorem power_ex (n : Int) (w : World) (h0 : 0 ≤ n) (h1 : n ≤ 12) :
    Calls Tro.prog 65 #[.int .i64 n] w fun e w' => ∃ P : Nat, e = .returned (.int .i64 P) ∧ 1 ≤ P ∧ P ≤ 4096 ∧ w = w' :=
  (power_any n w h0 (by omega)).mono fun e w' ⟨h2, h3⟩ => ⟨_, h2, Nat.one_le_two_pow, Tic.pow_le_12 h1, h3⟩
theorem and_bd {x y : Int} (h0 : 0 ≤ x) (h1 : x ≤ 100000) (h2 : 0 ≤ y) (h3 : y ≤ 100000) : 0 ≤ bits .and .i64 x y ∧ bits .and .i64 x y ≤ x := by
  obtain ⟨a, rfl⟩ := Int.eq_ofNat_of_zero_le h0
  obtain ⟨b, rfl⟩ := Int.eq_ofNat_of_zero_le h2
  rw [i64_and_nat a b (by omega) (by omega)]
  have := Nat.and_le_left (n := a) (m := b)
  omega
/-- a draw of a number, as the walks use it -/
def Pk (n : Int) (B p : Nat) (w : World) (e : Ending) (w' : World) : Prop := ∃ r : Int, e = .returned (.int .i64 r) ∧ 0 ≤ r ∧ r < n ∧ Hid (Rd w' B (p + 1)) ∧ Hid (w.grownBy w' (some B))
theorem pick_pos (n : Int) (B p : Nat) (w : World) (h : Rd w B p) (hp : p ≤ 10000) (hn : 1 ≤ n) (hn2 : n ≤ 100000) :
    Calls Tro.prog 62 #[.pointer (some ⟨B, 0, none⟩), .int .i64 n] w (Pk n B p w) :=
  (pick_any n B p w h hp (by omega) hn2).mono fun e w' ⟨r, h1, h2, h3, _, h5, h6⟩ => ⟨r, h1, h2, h3 hn, h5, h6⟩

set_option maxRecDepth 20000 in
set_option maxHeartbeats 2000000 in
theorem setOf_any (n : Int) (B p : Nat) (w : World) (h : Rd w B p) (hp : p ≤ 8000) (hn : -1000 ≤ n) (hn2 : n ≤ 1000) :
    Calls Tro.prog 61 #[.pointer (some ⟨B, 0, none⟩), .int .i64 n] w (Dr (-1) 1000000 8 B p w) := by
  have H := Lib.hid h
  clear h
  rcases (show n < 0 ∨ (0 ≤ n ∧ n ≤ 2) ∨ (2 < n ∧ n ≤ 12) ∨ 12 < n by omega) with c | ⟨c, c2⟩ | ⟨c, c2⟩ | c
  all_goals
    go_enter Tro.func61, Tro.ntmps61
    go_wp2_with fail
    refine (pick_pos _ _ _ _ H.out (by omega) (by omega) (by omega)).mono ?_; rintro e w1 ⟨r0, rfl, h0, h1, H1, G1⟩
    by_cases hr0 : r0 = 0
    · subst hr0
      go_wp2_with fail
      refine (power_ex _ _ (by omega) (by omega)).mono ?_; rintro e w2 ⟨P, rfl, p1, p2, rfl⟩
      go_wp2_with fail
      refine (one_lit [-1, (P : Int), 0] _ _ (-1) 1000000 _ _ _ rfl rfl H1.out (by omega) (by simp) (by simp) ?_).mono ?_
      · intro y hy; simp at hy; omega
      rintro e w2 ⟨y, p', rfl, y0, y1, hp', hrd, hgr⟩
      go_wp2_with fail
      go_ret
      exact ⟨y, p', rfl, y0, y1, by omega, hrd, grown_trans G1.out hgr⟩
    · go_wp2_with fail
      refine (pick_pos _ _ _ _ H1.out (by omega) (by omega) (by omega)).mono ?_; rintro e w2 ⟨r1, rfl, h2, h3, H2, G2⟩
      replace G2 := Lib.hid (grown_trans G1.out G2.out)
      clear H1 G1
      go_wp2_with fail
      refine (pick_pos _ _ _ _ H2.out (by omega) (by omega) (by omega)).mono ?_; rintro e w3 ⟨r2, rfl, h4, h5, H3, G3⟩
      replace G3 := Lib.hid (grown_trans G2.out G3.out)
      clear H2 G2
      go_wp2_with fail
      refine (power_ex _ _ (by omega) (by omega)).mono ?_; rintro e w4 ⟨P, rfl, p1, p2, rfl⟩
      have x0 := Int.emod_nonneg (r1 + 256 * r2) (b := (P : Int)) (by omega)
      have x1 := Int.emod_lt_of_pos (r1 + 256 * r2) (b := (P : Int)) (by omega)
      go_wp2_with fail
      refine (pick_pos _ _ _ _ H3.out (by omega) (by omega) (by omega)).mono ?_; rintro e w5 ⟨r3, rfl, h6, h7, H4, G4⟩
      replace G4 := Lib.hid (grown_trans G3.out G4.out)
      clear H3 G3
      generalize (r1 + 256 * r2) % (P : Int) = x at x0 x1
      rcases (show r3 = 0 ∨ r3 = 1 ∨ (r3 ≠ 0 ∧ r3 ≠ 1) by omega) with c3 | c3 | ⟨c3, c4⟩
      · subst c3
        go_wp2_with fail
        refine (pick_pos _ _ _ _ H4.out (by omega) (by omega) (by omega)).mono ?_; rintro e w6 ⟨r4, rfl, h8, h9, H5, G5⟩
        replace G5 := Lib.hid (grown_trans G4.out G5.out)
        clear H4 G4
        go_wp2_with fail
        refine (pick_pos _ _ _ _ H5.out (by omega) (by omega) (by omega)).mono ?_; rintro e w7 ⟨r5, rfl, h10, h11, H6, G6⟩
        replace G6 := Lib.hid (grown_trans G5.out G6.out)
        clear H5 G5
        obtain ⟨z0, z1⟩ := and_bd (x := x) (y := r4 + 256 * r5) x0 (by omega) (by omega) (by omega)
        go_wp2
        go_ret
        exact ⟨_, _, rfl, by omega, by omega, by omega, H6.out, G6.out⟩
      · subst c3
        first
          | (exfalso; omega)
          | (go_wp2_with fail
             go_ret
             exact ⟨x, _, rfl, by omega, by omega, by omega, H4.out, G4.out⟩)
          | (go_wp2_with fail
             refine (pick_pos _ _ _ _ H4.out (by omega) (by omega) (by omega)).mono ?_; rintro e w6 ⟨r4, rfl, h8, h9, H5, G5⟩
             replace G5 := Lib.hid (grown_trans G4.out G5.out)
             clear H4 G4
             go_wp2_with fail
             refine (pick_pos _ _ _ _ H5.out (by omega) (by omega) (by omega)).mono ?_; rintro e w7 ⟨r5, rfl, h10, h11, H6, G6⟩
             replace G6 := Lib.hid (grown_trans G5.out G6.out)
             clear H5 G5
             go_wp2_with fail
             refine (spread_any _ _ _ _ (by omega) (by omega) (by omega) (by omega) (by omega) (by omega)).mono ?_; rintro e w8 ⟨y, rfl, y0, y1, rfl⟩
             go_wp2_with fail
             go_ret
             exact ⟨y, _, rfl, by omega, by omega, by omega, H6.out, G6.out⟩)
      · go_wp2_with fail
        go_ret
        exact ⟨x, _, rfl, by omega, by omega, by omega, H4.out, G4.out⟩

/-- a circle and a set of its tones are drawn -/
def DrSet (c B p : Nat) (w : World) (e : Ending) (w' : World) : Prop :=
  ∃ (n s : Int) (p' : Nat), e = .returned (.tuple #[.int .i64 n, .int .i64 s]) ∧ -1 ≤ n ∧ n ≤ 13 ∧ -1 ≤ s ∧ s ≤ 1000000 ∧ p' ≤ p + c ∧ Rd w' B p' ∧ w.grownBy w' (some B)
theorem aSet_any (B p : Nat) (w : World) (h : Rd w B p) (hp : p ≤ 7000) :
    Calls Tro.prog 50 #[.pointer (some ⟨B, 0, none⟩)] w (DrSet 10 B p w) := by
  go_enter Tro.func50, Tro.ntmps50
  go_wp2_with fail
  refine (circle_any _ _ _ h (by omega)).mono ?_; rintro e w1 ⟨n, p1, rfl, n0, n1, hp1, hr1, hg1⟩
  have H1 := Lib.hid hr1
  have G1 := Lib.hid hg1
  clear hr1 hg1
  go_wp2_with fail
  refine (setOf_any _ _ _ _ H1.out (by omega) (by omega) (by omega)).mono ?_; rintro e w2 ⟨s, p2, rfl, s0, s1, hp2, hr2, hg2⟩
  have H2 := Lib.hid hr2
  have G2 := Lib.hid (grown_trans G1.out hg2)
  clear hr2 hg2
  go_wp2_with fail
  go_ret2
  exact ⟨n, s, p2, rfl, n0, n1, by omega, s1, by omega, H2.out, G2.out⟩


/-- the arguments of a function of a circle and a set -/
def Two (w : World) (e : Ending) (w' : World) : Prop := ∃ n s : Int, e = .returned (.tuple #[.int .i64 n, .int .i64 s]) ∧ -1 ≤ n ∧ n ≤ 13 ∧ -1 ≤ s ∧ s ≤ 1000000 ∧ Below w.heap.size w w'
/-- the arguments of a function of a circle, a set and a number -/
def Three (w : World) (e : Ending) (w' : World) : Prop := ∃ n s t : Int, e = .returned (.tuple #[.int .i64 n, .int .i64 s, .int .i64 t]) ∧ -1 ≤ n ∧ n ≤ 13 ∧ -1 ≤ s ∧ s ≤ 1000000 ∧ -60 ≤ t ∧ t ≤ 60 ∧ Below w.heap.size w w'
theorem below_grown {w w1 w2 : World} (h : Below w.heap.size w w1) (hg : w1.grownBy w2 (some w.heap.size)) : Below w.heap.size w w2 :=
  h.grown hg h.size (fun k hk => by injection hk with hk; omega)

end Go.Proofs.YtjgkignnfkbeaaaTro

/-
  Contracts of the drawers of arguments of a circle and a set, and of a shift beside them.
-/
namespace Go.Proofs.YtjgkignnfkbeaaaTro
open Go.RowKit
set_option linter.unusedVariables false

/-- a code that came in, byte by byte -/
def Code (w : World) (x : Option Addr) (len cap : Nat) : Prop := ∃ zs, Bytes w x len zs ∧ len ≤ cap ∧ cap ≤ maxLen
theorem code_nil (w : World) : Code w none 0 0 := ⟨[], .inl rfl, Nat.le_refl _, Nat.zero_le _⟩
theorem code_row {w : World} {x : Addr} {len cap : Nat} {z : List Int} (hl : len ≤ cap) (hm : cap ≤ maxLen) (hz : z.length = cap) (hcell : ∀ i, i < z.length → w.cell? (x.add i) = some (.int .u8 (z.getD i 0))) (hwz : ∀ n ∈ z, (Lit.int .u8 n).wf = true) : Code w (some x) len cap := by
  refine ⟨z, ?_, hl, hm⟩
  by_cases h0 : len = 0
  · exact .inl h0
  · obtain ⟨b, off, spot⟩ := x
    have hc := hcell 0 (by omega)
    have hspot : spot = none := by simpa [Addr.add] using World.cell?_spot hc
    subst hspot
    have hb : b < w.heap.size := by simpa [Addr.add] using World.block_lt_of_cell? w _ hc
    refine .inr ⟨b, off, rfl, hb, fun i hi => ⟨(show (⟨b, off + i, none⟩ : Addr) = (⟨b, off, none⟩ : Addr).add i by unfold Addr.add; split <;> simp_all) ▸ hcell i (by omega), ?_⟩⟩
    have hmem : z.getD i 0 ∈ z := by
      rw [List.getD_eq_getElem?_getD, List.getElem?_eq_getElem (by omega)]
      exact List.getElem_mem _
    have hw := hwz _ hmem
    exact bounds_u8 hw

theorem drawNearOf (x : Option Addr) (len cap : Nat) (w : World) (h : Code w x len cap) : Calls Tro.prog 19 #[.slice x len cap] w (Two w) := by
  obtain ⟨zs, h1, h2, h3⟩ := h
  go_enter Tro.func19, Tro.ntmps19
  go_wp2_with fail
  refine (newReader_any _ _ _ _ _ h1 h2 h3).mono ?_; rintro e w1 ⟨rfl, hrd, hb, _⟩
  have HB := Lib.hid hb
  clear hb
  go_wp2_with fail
  refine (aSet_any _ _ _ hrd (by omega)).mono ?_; rintro e w2 ⟨n, s, p', rfl, n0, n1, s0, s1, _, _, hg⟩
  go_wp2_with fail
  go_ret2
  exact ⟨n, s, rfl, n0, n1, s0, s1, below_grown HB.out hg⟩
theorem drawSmoothOf (x : Option Addr) (len cap : Nat) (w : World) (h : Code w x len cap) : Calls Tro.prog 31 #[.slice x len cap] w (Two w) := by
  obtain ⟨zs, h1, h2, h3⟩ := h
  go_enter Tro.func31, Tro.ntmps31
  go_wp2_with fail
  refine (newReader_any _ _ _ _ _ h1 h2 h3).mono ?_; rintro e w1 ⟨rfl, hrd, hb, _⟩
  have HB := Lib.hid hb
  clear hb
  go_wp2_with fail
  refine (aSet_any _ _ _ hrd (by omega)).mono ?_; rintro e w2 ⟨n, s, p', rfl, n0, n1, s0, s1, _, _, hg⟩
  go_wp2_with fail
  go_ret2
  exact ⟨n, s, rfl, n0, n1, s0, s1, below_grown HB.out hg⟩

end Go.Proofs.YtjgkignnfkbeaaaTro

/-
  Plain mathematics of kinds of sets: shifts and turns composed, and the least of them. No program in sight.
-/
namespace Go.Proofs.YtjgkignnfkbeaaaTro.Tic
set_option linter.unusedVariables false
/-- how many t below k have p -/
def cnt (p : Nat → Bool) : Nat → Nat
  | 0 => 0
  | k + 1 => if p k then cnt p k + 1 else cnt p k
theorem cnt_le (p : Nat → Bool) : ∀ k, cnt p k ≤ k
  | 0 => Nat.le_refl _
  | k + 1 => by unfold cnt; have := cnt_le p k; split <;> omega
theorem cnt_yes {p : Nat → Bool} {k : Nat} (h : p k = true) : cnt p (k + 1) = cnt p k + 1 := by conv => lhs; unfold cnt; rw [if_pos h]
theorem cnt_no {p : Nat → Bool} {k : Nat} (h : p k = false) : cnt p (k + 1) = cnt p k := by conv => lhs; unfold cnt; rw [if_neg (by simp [h])]

theorem emod_mul_emod (a b c : Int) (n : Nat) : (a + b * (c % (n : Int))) % (n : Int) = (a + b * c) % (n : Int) := by
  have h := Int.mul_ediv_add_emod c n
  have e : a + b * c = (a + b * (c % (n : Int))) + n * (b * (c / n)) := by
    conv => lhs; rw [← h]
    rw [Int.mul_add, Int.mul_left_comm b]
    omega
  rw [e, Int.add_mul_emod_self_left]

theorem mvd_comp {n : Nat} (h : 0 < n) (w1 t1 w2 t2 : Int) (x : Nat) : mvd n w1 t1 (mvd n w2 t2 x) = mvd n (w1 * w2) (t1 + w1 * t2) x := by
  have h1 := Int.emod_nonneg (t2 + w2 * x) (b := (n : Int)) (by omega)
  unfold mvd
  rw [Int.toNat_of_nonneg h1, emod_mul_emod]
  congr 2
  rw [Int.mul_add, Int.add_assoc, Int.mul_assoc]

theorem img_congr (f g : Nat → Nat) (s : Nat) : ∀ k, (∀ x, x < k → f x = g x) → img f s k = img g s k
  | 0, _ => rfl
  | k + 1, h => by unfold img; rw [img_congr f g s k (fun x hx => h x (by omega)), h k (by omega)]

theorem img_img (f g : Nat → Nat) (s n : Nat) (hg : ∀ x, x < n → g x < n) : img f (img g s n) n = img (fun x => f (g x)) s n := by
  apply Nat.eq_of_testBit_eq
  intro y
  rw [Bool.eq_iff_iff, img_testBit, img_testBit]
  constructor
  · rintro ⟨x, hx, h1, rfl⟩
    obtain ⟨z, hz, h2, rfl⟩ := (img_testBit g s x n).1 h1
    exact ⟨z, hz, h2, rfl⟩
  · rintro ⟨z, hz, h2, rfl⟩
    exact ⟨g z, hg z hz, (img_testBit g s _ n).2 ⟨z, hz, h2, rfl⟩, rfl⟩

theorem img_id {s n : Nat} (hs : s < 2 ^ n) (f : Nat → Nat) (hf : ∀ x, x < n → f x = x) : img f s n = s := by
  apply Nat.eq_of_testBit_eq
  intro y
  rw [Bool.eq_iff_iff, img_testBit]
  constructor
  · rintro ⟨x, hx, h1, rfl⟩; rw [hf x hx]; exact h1
  · intro h
    have hy : y < n := by
      rcases Nat.lt_or_ge y n with g | g
      · exact g
      · have := Nat.testBit_lt_two_pow (Nat.lt_of_lt_of_le hs (Nat.pow_le_pow_right (by omega : 0 < 2) g))
        rw [this] at h; cases h
    exact ⟨y, hy, h, hf y hy⟩

theorem img_mvd_comp {n : Nat} (h : 0 < n) (w1 t1 w2 t2 : Int) (s : Nat) : img (mvd n w1 t1) (img (mvd n w2 t2) s n) n = img (mvd n (w1 * w2) (t1 + w1 * t2)) s n := by
  rw [img_img _ _ _ _ (fun x _ => mvd_lt h _ _ x)]
  exact img_congr _ _ _ _ fun x _ => mvd_comp h _ _ _ _ x

theorem shf_zero {n s : Nat} (h : 0 < n) (hs : s < 2 ^ n) : shf n 0 s = s := by
  refine img_id hs _ fun x hx => ?_
  unfold mvd
  rw [Int.one_mul, Int.zero_add, Int.emod_eq_of_lt (by omega) (by omega)]
  rfl
theorem shf_tur0 {n : Nat} (h : 0 < n) (t : Int) (s : Nat) : shf n t (tur n 0 s) = tur n t s := by
  unfold shf tur
  rw [img_mvd_comp h, show t + 1 * 0 = t from by omega]; rfl
theorem shf_shf {n : Nat} (h : 0 < n) (t u : Int) (s : Nat) : shf n t (shf n u s) = shf n (t + u) s := by
  unfold shf
  rw [img_mvd_comp h, show t + 1 * u = t + u from by omega]; rfl
theorem tur_shf {n : Nat} (h : 0 < n) (t u : Int) (s : Nat) : tur n t (shf n u s) = tur n (t - u) s := by
  unfold tur shf
  rw [img_mvd_comp h, show t + -1 * u = t - u from by omega]; rfl
theorem shf_tur {n : Nat} (h : 0 < n) (t u : Int) (s : Nat) : shf n t (tur n u s) = tur n (t + u) s := by
  unfold tur shf
  rw [img_mvd_comp h, show t + 1 * u = t + u from by omega]; rfl
theorem tur_tur {n : Nat} (h : 0 < n) (t u : Int) (s : Nat) : tur n t (tur n u s) = shf n (t - u) s := by
  unfold tur shf
  rw [img_mvd_comp h, show t + -1 * u = t - u from by omega]; rfl

/-- the least of s and its shifts and turns by all below k -/
def kTo (n s : Nat) : Nat → Nat
  | 0 => s
  | k + 1 => min (min (kTo n s k) (shf n k s)) (tur n k s)
/-- the least of s and its shifts by 1 to k -/
def lTo (n s : Nat) : Nat → Nat
  | 0 => s
  | k + 1 => min (lTo n s k) (shf n (k + 1 : Nat) s)
theorem lTo_next (n s : Nat) {k : Nat} (h : 1 ≤ k) : lTo n s (k + 1 - 1) = min (lTo n s (k - 1)) (shf n k s) := by
  obtain ⟨j, rfl⟩ : ∃ j, k = j + 1 := ⟨k - 1, by omega⟩
  rfl
theorem kTo_le (n s : Nat) : ∀ k, kTo n s k ≤ s
  | 0 => Nat.le_refl _
  | k + 1 => by unfold kTo; have := kTo_le n s k; omega
theorem lTo_le (n s : Nat) : ∀ k, lTo n s k ≤ s
  | 0 => Nat.le_refl _
  | k + 1 => by unfold lTo; have := lTo_le n s k; omega
theorem kTo_shf (n s : Nat) : ∀ k t, t < k → kTo n s k ≤ shf n t s
  | k + 1, t, h => by
    unfold kTo
    by_cases e : t = k
    · subst e; omega
    · have := kTo_shf n s k t (by omega); omega
theorem kTo_tur (n s : Nat) : ∀ k t, t < k → kTo n s k ≤ tur n t s
  | k + 1, t, h => by
    unfold kTo
    by_cases e : t = k
    · subst e; omega
    · have := kTo_tur n s k t (by omega); omega
theorem kTo_mem (n s : Nat) : ∀ k, kTo n s k = s ∨ ∃ t, t < k ∧ (kTo n s k = shf n t s ∨ kTo n s k = tur n t s)
  | 0 => .inl rfl
  | k + 1 => by
    have e : kTo n s (k + 1) = kTo n s k ∨ kTo n s (k + 1) = shf n k s ∨ kTo n s (k + 1) = tur n k s := by
      conv => lhs; lhs; unfold kTo
      conv => rhs; lhs; lhs; unfold kTo
      conv => rhs; rhs; lhs; unfold kTo
      omega
    rcases e with e | e | e
    · rcases kTo_mem n s k with h | ⟨t, ht, h⟩
      · exact .inl (e.trans h)
      · exact .inr ⟨t, by omega, by rw [e]; exact h⟩
    · exact .inr ⟨k, by omega, .inl e⟩
    · exact .inr ⟨k, by omega, .inr e⟩
theorem lTo_shf (n s : Nat) : ∀ k t, 1 ≤ t → t ≤ k → lTo n s k ≤ shf n (t : Nat) s
  | 0, t, h, h2 => by omega
  | k + 1, t, h, h2 => by
    unfold lTo
    by_cases e : t = k + 1
    · subst e; omega
    · have := lTo_shf n s k t h (by omega); omega
theorem lTo_mem (n s : Nat) : ∀ k, lTo n s k = s ∨ ∃ t : Nat, 1 ≤ t ∧ t ≤ k ∧ lTo n s k = shf n t s
  | 0 => .inl rfl
  | k + 1 => by
    have e : lTo n s (k + 1) = lTo n s k ∨ lTo n s (k + 1) = shf n (k + 1 : Nat) s := by
      conv => lhs; lhs; unfold lTo
      conv => rhs; lhs; unfold lTo
      omega
    rcases e with e | e
    · rcases lTo_mem n s k with h | ⟨t, h0, ht, h⟩
      · exact .inl (e.trans h)
      · exact .inr ⟨t, h0, by omega, by rw [e]; exact h⟩
    · exact .inr ⟨k + 1, by omega, by omega, e⟩
/-- the least number of a kind -/
def prm (n s : Nat) : Nat := kTo n s n
theorem prm_spec {n s : Nat} (h : 0 < n) (hs : s < 2 ^ n) : min (lTo n s (n - 1)) (lTo n (tur n 0 s) (n - 1)) = prm n s := by
  apply Nat.le_antisymm
  · unfold prm
    rcases kTo_mem n s n with e | ⟨t, ht, e | e⟩
    · rw [e]; have := lTo_le n s (n - 1); omega
    · rw [e]
      by_cases e0 : t = 0
      · subst e0; rw [show ((0 : Nat) : Int) = 0 from rfl, shf_zero h hs]; have := lTo_le n s (n - 1); omega
      · have := lTo_shf n s (n - 1) t (by omega) (by omega); omega
    · rw [e]
      by_cases e0 : t = 0
      · subst e0; rw [show ((0 : Nat) : Int) = 0 from rfl]; have := lTo_le n (tur n 0 s) (n - 1); omega
      · have := lTo_shf n (tur n 0 s) (n - 1) t (by omega) (by omega); rw [shf_tur0 h] at this; omega
  · have h1 : prm n s ≤ lTo n s (n - 1) := by
      unfold prm
      rcases lTo_mem n s (n - 1) with e | ⟨t, h0, ht, e⟩
      · rw [e]; exact kTo_le _ _ _
      · rw [e]; exact kTo_shf n s n t (by omega)
    have h2 : prm n s ≤ lTo n (tur n 0 s) (n - 1) := by
      unfold prm
      rcases lTo_mem n (tur n 0 s) (n - 1) with e | ⟨t, h0, ht, e⟩
      · rw [e]; exact kTo_tur n s n 0 h
      · rw [e, shf_tur0 h]; exact kTo_tur n s n t (by omega)
    omega
theorem kTo_lt {n s : Nat} (hs : s < 2 ^ n) (k : Nat) : kTo n s k < 2 ^ n := Nat.lt_of_le_of_lt (kTo_le _ _ _) hs
theorem lTo_lt {n s : Nat} (hs : s < 2 ^ n) (k : Nat) : lTo n s k < 2 ^ n := Nat.lt_of_le_of_lt (lTo_le _ _ _) hs
theorem valid_shf {n s : Int} (h : Valid n s) (t : Int) : Valid n (shf n.toNat t s.toNat : Int) :=
  ⟨h.1, h.2.1, Int.natCast_nonneg _, by have := shf_lt (n := n.toNat) (by have := h.1; omega) t s.toNat; exact Int.ofNat_lt.2 this⟩
theorem valid_tur {n s : Int} (h : Valid n s) (t : Int) : Valid n (tur n.toNat t s.toNat : Int) :=
  ⟨h.1, h.2.1, Int.natCast_nonneg _, by have := tur_lt (n := n.toNat) (by have := h.1; omega) t s.toNat; exact Int.ofNat_lt.2 this⟩
theorem Valid.lt_pow {n s : Int} (h : Valid n s) : s.toNat < 2 ^ n.toNat := by
  have h1 := h.2.2.2
  have h2 := h.2.2.1
  omega
theorem valid_prm {n s : Int} (h : Valid n s) : Valid n (prm n.toNat s.toNat : Int) :=
  ⟨h.1, h.2.1, Int.natCast_nonneg _, Int.ofNat_lt.2 (kTo_lt h.lt_pow _)⟩
theorem prm_min {n s : Int} (h : Valid n s) : min (lTo n.toNat s.toNat (n.toNat - 1)) (lTo n.toNat (tur n.toNat 0 s.toNat) (n.toNat - 1)) = prm n.toNat s.toNat :=
  prm_spec (by have := h.1; omega) h.lt_pow
/-- how many shifts, turns below n leave the set -/
def shs (n s : Nat) : Nat → Nat := cnt fun t => shf n t s == s
def trs (n s : Nat) : Nat → Nat := cnt fun t => tur n t s == s
theorem shs_step (N S k : Nat) : ((((img (mvd N 1 k) S N : Nat) : Int) == (S : Int)) = true ∧ shs N S (k + 1) = shs N S k + 1) ∨ ((((img (mvd N 1 k) S N : Nat) : Int) == (S : Int)) = false ∧ shs N S (k + 1) = shs N S k) := by
  by_cases h : shf N k S = S
  · refine .inl ⟨?_, cnt_yes (by simpa using h)⟩
    rw [show img (mvd N 1 k) S N = S from h]; simp
  · refine .inr ⟨?_, cnt_no (by simpa using h)⟩
    have : ((img (mvd N 1 k) S N : Nat) : Int) ≠ (S : Int) := fun e => h (Int.ofNat.inj e)
    simpa using this
theorem trs_step (N S k : Nat) : ((((img (mvd N (-1) k) S N : Nat) : Int) == (S : Int)) = true ∧ trs N S (k + 1) = trs N S k + 1) ∨ ((((img (mvd N (-1) k) S N : Nat) : Int) == (S : Int)) = false ∧ trs N S (k + 1) = trs N S k) := by
  by_cases h : tur N k S = S
  · refine .inl ⟨?_, cnt_yes (by simpa using h)⟩
    rw [show img (mvd N (-1) k) S N = S from h]; simp
  · refine .inr ⟨?_, cnt_no (by simpa using h)⟩
    have : ((img (mvd N (-1) k) S N : Nat) : Int) ≠ (S : Int) := fun e => h (Int.ofNat.inj e)
    simpa using this
theorem shs_le (N S k : Nat) : shs N S k ≤ k := cnt_le _ k
theorem trs_le (N S k : Nat) : trs N S k ≤ k := cnt_le _ k
end Go.Proofs.YtjgkignnfkbeaaaTro.Tic

/-
  The draw of a circle and two sets of its tones.
-/
namespace Go.Proofs.YtjgkignnfkbeaaaTro
open Go.RowKit
set_option linter.unusedVariables false

/-- a circle and two sets are drawn -/
def DrTwo (B : Nat) (w : World) (e : Ending) (w' : World) : Prop :=
  ∃ n a b : Int, e = .returned (.tuple #[.int .i64 n, .int .i64 a, .int .i64 b]) ∧ -1 ≤ n ∧ n ≤ 13 ∧ -1 ≤ a ∧ a ≤ 1000000 ∧ -1 ≤ b ∧ b ≤ 1000000 ∧ w.grownBy w' (some B)
/-- the arguments of a function of a circle and two sets -/
def Pair2 (w : World) (e : Ending) (w' : World) : Prop := ∃ n a b : Int, e = .returned (.tuple #[.int .i64 n, .int .i64 a, .int .i64 b]) ∧ -1 ≤ n ∧ n ≤ 13 ∧ -1 ≤ a ∧ a ≤ 1000000 ∧ -1 ≤ b ∧ b ≤ 1000000 ∧ Below w.heap.size w w'
theorem turn_set (n s t : Int) (w : World) (hv : Tic.Valid n s) (ht : Tic.Turn t) :
    Calls Tro.prog 63 #[.int .i64 n, .int .i64 s, .int .i64 t] w fun e w' => ∃ P : Int, e = .returned (.int .i64 P) ∧ Tic.Valid n P ∧ w = w' :=
  (sturn_any n s t w hv ht).mono fun e w' ⟨h2, h3⟩ => ⟨_, h2, Tic.valid_tur hv t, h3⟩
theorem shift_set (n s t : Int) (w : World) (hv : Tic.Valid n s) (ht : Tic.Turn t) :
    Calls Tro.prog 59 #[.int .i64 n, .int .i64 s, .int .i64 t] w fun e w' => ∃ P : Int, e = .returned (.int .i64 P) ∧ 0 ≤ P ∧ P < 4096 ∧ w = w' :=
  (sshift_any n s t w hv ht).mono fun e w' ⟨h2, h3⟩ => ⟨_, h2, Int.natCast_nonneg _, by have := Tic.shf_lt12 hv t; omega, h3⟩
set_option maxRecDepth 20000 in
set_option maxHeartbeats 2000000 in
theorem twoSets_any (B p : Nat) (w : World) (h : Rd w B p) (hp : p ≤ 100) :
    Calls Tro.prog 39 #[.pointer (some ⟨B, 0, none⟩)] w (DrTwo B w) := by
  go_enter Tro.func39, Tro.ntmps39
  go_wp2_with fail
  refine (aSet_any _ _ _ h (by omega)).mono ?_; rintro e w1 ⟨n, s, p1, rfl, n0, n1, s0, s1, hp1, hr, hg⟩
  have HR := Lib.hid hr
  have HG := Lib.hid hg
  clear hr hg h
  by_cases hv : Tic.Valid n s
  · have g1 := hv.1
    have g2 := hv.2.1
    have hlt := hv.lt
    have HV := Lib.hid hv
    obtain ⟨N, rfl⟩ := Int.eq_ofNat_of_zero_le (show 0 ≤ n by omega)
    obtain ⟨S, rfl⟩ := Int.eq_ofNat_of_zero_le hv.2.2.1
    clear hv
    go_wp2_with fail
    refine (validSet_yes _ _ _ HV.out).mono ?_; rintro e w2 ⟨rfl, rfl⟩
    go_wp2_with fail
    refine (pick_pos _ _ _ _ HR.out (by omega) (by omega) (by omega)).mono ?_; rintro e w2 ⟨r0, rfl, h0, h1, H1, G1⟩
    have HG1 := Lib.hid (grown_trans HG.out G1.out)
    clear HR G1 HG
    by_cases hr0 : r0 = 0
    · subst hr0
      go_wp2_with fail
      refine (pick_pos _ _ _ _ H1.out (by omega) (by omega) (by omega)).mono ?_; rintro e w3 ⟨r1, rfl, q0, q1, H2, G2⟩
      replace HG1 := Lib.hid (grown_trans HG1.out G2.out)
      clear H1 G2
      go_wp2_with fail
      refine (pick_pos _ _ _ _ H2.out (by omega) (by omega) (by omega)).mono ?_; rintro e w4 ⟨r2, rfl, q2, q3, H3, G3⟩
      replace HG1 := Lib.hid (grown_trans HG1.out G3.out)
      clear H2 G3
      rcases (show r1 = 0 ∨ r1 = 1 by omega) with rfl | rfl
      all_goals
        go_wp2_with fail
        refine (turn_set _ _ _ _ HV.out ⟨by omega, by omega⟩).mono ?_; rintro e w5 ⟨T, rfl, hT, rfl⟩
        go_wp2_with fail
        refine (pick_pos _ _ _ _ H3.out (by omega) (by omega) (by omega)).mono ?_; rintro e w5 ⟨r3, rfl, q4, q5, H4, G4⟩
        replace HG1 := Lib.hid (grown_trans HG1.out G4.out)
        clear H3 G4
        go_wp2_with fail
        refine (shift_set _ _ _ _ hT ⟨by omega, by omega⟩).mono ?_; rintro e w6 ⟨X, rfl, hX0, hX1, rfl⟩
        go_wp2_with fail
        go_ret3
        exact ⟨_, _, _, rfl, by omega, by omega, by omega, by omega, by omega, by omega, HG1.out⟩
    · have hr1 : (r0 == 0) = false := by rw [beq_eq_false_iff_ne]; exact hr0
      go_wp2_with fail
      refine (weight_any _ _ (by omega) (by omega)).mono ?_; rintro e w3 ⟨rfl, rfl⟩
      rw [Int.toNat_natCast]
      have hk := Tic.wt_le 12 S
      generalize Tic.wt 12 S = k at hk ⊢
      have HG0 := HG1
      obtain ⟨p2, hp2⟩ : ∃ p2, p2 = p1 + 1 := ⟨_, rfl⟩
      rw [← hp2] at H1
      have hp3 : p2 ≤ 200 := by omega
      clear hp2 HG1 hr0 hr1 h0 h1
      go_wp2
      go_loopw [7, 9, 10] (fun t7 t9 t10 wr => ∃ x b q : Nat, x ≤ N ∧ b < 2 ^ x ∧ q ≤ p2 + x ∧ t9 = .int .i64 x ∧ t7 = .int .i64 b ∧ Hid (Rd wr B q) ∧ Hid (w.grownBy wr (some B))) (fun _ t9 _ _ => N - (intOf t9).toNat)
      case atStart => exact ⟨0, 0, p2, Nat.zero_le _, by decide, Nat.le_refl _, rfl, rfl, H1, HG0⟩
      case round =>
        clear H1 HG0
        obtain ⟨x, b, q, hx, hb, hq, rfl, rfl, H1, HG0⟩ := hrel
        have hp12 : 2 ^ x ≤ 2 ^ 12 := Nat.pow_le_pow_right (by omega) (by omega)
        by_cases hlt2 : x < N
        · have hp2x : 2 ^ (x + 1) = 2 * 2 ^ x := by rw [Nat.pow_succ]; omega
          have hwb := Tic.wt_le 12 b
          go_wp2_with fail
          refine (weight_any _ _ (by omega) (by omega)).mono ?_; rintro e w4 ⟨rfl, rfl⟩
          rw [Int.toNat_natCast]
          generalize Tic.wt 12 b = c at hwb ⊢
          by_cases hkc : c < k
          · go_wp2_with fail
            refine (pick_pos _ _ _ _ H1.out (by omega) (by omega) (by omega)).mono ?_; rintro e w5 ⟨r, rfl, q4, q5, H2, G2⟩
            have HG2 := Lib.hid (grown_trans HG0.out G2.out)
            clear H1 HG0 G2
            by_cases hrk : r < (k : Int)
            · have HPW := Lib.hid (fun w' => power_any (x : Int) w' (by omega) (by omega))
              simp only [Int.toNat_natCast] at HPW
              generalize 2 ^ x = P at *
              go_wp2_with fail
              refine (HPW.out _).mono ?_; rintro e w6 ⟨rfl, rfl⟩
              go_wp2
              go_roundw
              case rel => exact ⟨x + 1, b + P, q + 1, by omega, by omega, by omega, by go_num, by go_num, H2, HG2⟩
              case measure => simp [intOf]; omega
            · by_cases hnl : (N : Int) - (x : Int) ≤ (k : Int) - (c : Int)
              · have HPW := Lib.hid (fun w' => power_any (x : Int) w' (by omega) (by omega))
                simp only [Int.toNat_natCast] at HPW
                generalize 2 ^ x = P at *
                go_wp2_with fail
                refine (HPW.out _).mono ?_; rintro e w6 ⟨rfl, rfl⟩
                go_wp2
                go_roundw
                case rel => exact ⟨x + 1, b + P, q + 1, by omega, by omega, by omega, by go_num, by go_num, H2, HG2⟩
                case measure => simp [intOf]; omega
              · go_wp2
                go_roundw
                case rel => exact ⟨x + 1, b, q + 1, by omega, by omega, by omega, by go_num, rfl, H2, HG2⟩
                case measure => simp [intOf]; omega
          · go_wp2
            go_roundw
            case rel => exact ⟨x + 1, b, q, by omega, by omega, by omega, by go_num, rfl, H1, HG0⟩
            case measure => simp [intOf]; omega
        · obtain rfl : x = N := by omega
          go_wp2_with fail
          refine (pick_pos _ _ _ _ H1.out (by omega) (by omega) (by omega)).mono ?_; rintro e w5 ⟨r, rfl, q4, q5, H2, G2⟩
          have HG2 := Lib.hid (grown_trans HG0.out G2.out)
          clear H1 HG0 G2
          by_cases hr : r = 0
          · subst hr
            go_wp2_with fail
            refine (setOf_any _ _ _ _ H2.out (by omega) (by omega) (by omega)).mono ?_; rintro e w6 ⟨y, p9, rfl, y0, y1, _, _, hg9⟩
            have HG3 := Lib.hid (grown_trans HG2.out hg9)
            clear hg9
            go_wp2_with fail
            go_ret3
            exact ⟨_, _, _, rfl, by omega, by omega, by omega, by omega, by omega, by omega, HG3.out⟩
          · have hr1 : (r == 0) = false := by rw [beq_eq_false_iff_ne]; exact hr
            go_wp2_with fail
            go_ret3
            exact ⟨_, _, _, rfl, by omega, by omega, by omega, by omega, by omega, by omega, HG2.out⟩
  · go_wp2_with fail
    refine (validSet_no _ _ _ hv).mono ?_; rintro e w2 ⟨rfl, rfl⟩
    go_wp2_with fail
    refine (setOf_any _ _ _ _ HR.out (by omega) (by omega) (by omega)).mono ?_; rintro e w2 ⟨y, p', rfl, y0, y1, hp', _, hg2⟩
    have HG2 := Lib.hid (grown_trans HG.out hg2)
    clear hg2
    go_wp2_with fail
    go_ret3
    exact ⟨_, _, _, rfl, by omega, by omega, by omega, by omega, by omega, by omega, HG2.out⟩
theorem drawFarOf (x : Option Addr) (len cap : Nat) (w : World) (h : Code w x len cap) : Calls Tro.prog 12 #[.slice x len cap] w (Pair2 w) := by
  obtain ⟨zs, h1, h2, h3⟩ := h
  go_enter Tro.func12, Tro.ntmps12
  go_wp2_with fail
  refine (newReader_any _ _ _ _ _ h1 h2 h3).mono ?_; rintro e w1 ⟨rfl, hrd, hb, _⟩
  have HB := Lib.hid hb
  clear hb
  go_wp2_with fail
  refine (twoSets_any _ _ _ hrd (by omega)).mono ?_; rintro e w2 ⟨n, a, b, rfl, n0, n1, a0, a1, b0, b1, hg⟩
  have HG := Lib.hid (below_grown HB.out hg)
  clear hg
  go_wp2_with fail
  go_ret3
  exact ⟨n, a, b, rfl, n0, n1, a0, a1, b0, b1, HG.out⟩
theorem drawStepsTo (x : Option Addr) (len cap : Nat) (w : World) (h : Code w x len cap) : Calls Tro.prog 25 #[.slice x len cap] w (Pair2 w) := by
  obtain ⟨zs, h1, h2, h3⟩ := h
  go_enter Tro.func25, Tro.ntmps25
  go_wp2_with fail
  refine (newReader_any _ _ _ _ _ h1 h2 h3).mono ?_; rintro e w1 ⟨rfl, hrd, hb, _⟩
  have HB := Lib.hid hb
  clear hb
  go_wp2_with fail
  refine (twoSets_any _ _ _ hrd (by omega)).mono ?_; rintro e w2 ⟨n, a, b, rfl, n0, n1, a0, a1, b0, b1, hg⟩
  have HG := Lib.hid (below_grown HB.out hg)
  clear hg
  go_wp2_with fail
  go_ret3
  exact ⟨n, a, b, rfl, n0, n1, a0, a1, b0, b1, HG.out⟩
theorem drawPathTo (x : Option Addr) (len cap : Nat) (w : World) (h : Code w x len cap) : Calls Tro.prog 28 #[.slice x len cap] w (Pair2 w) := by
  obtain ⟨zs, h1, h2, h3⟩ := h
  go_enter Tro.func28, Tro.ntmps28
  go_wp2_with fail
  refine (newReader_any _ _ _ _ _ h1 h2 h3).mono ?_; rintro e w1 ⟨rfl, hrd, hb, _⟩
  have HB := Lib.hid hb
  clear hb
  go_wp2_with fail
  refine (twoSets_any _ _ _ hrd (by omega)).mono ?_; rintro e w2 ⟨n, a, b, rfl, n0, n1, a0, a1, b0, b1, hg⟩
  have HG := Lib.hid (below_grown HB.out hg)
  clear hg
  go_wp2_with fail
  go_ret3
  exact ⟨n, a, b, rfl, n0, n1, a0, a1, b0, b1, HG.out⟩
end Go.Proofs.YtjgkignnfkbeaaaTro

/-
  The contract of the laws' test that a list ascends.
-/
namespace Go.Proofs.YtjgkignnfkbeaaaTro
open Go.RowKit
set_option linter.unusedVariables false

theorem lascends_any (L : List Int) (v : Value) (B : Nat) (w : World) (h : Row w B v L) (hp : L.Pairwise (· < ·)) (hb : ∀ y, y ∈ L → 0 ≤ y ∧ y ≤ 5000) :
    Calls Tro.prog 24 #[v] w fun e w' => e = .returned (.bool true) ∧ Below w.heap.size w w' := by
  have hl2 := h.2
  rcases h.cases with ⟨rfl, _⟩ | ⟨g, c, rfl, _, hg, hc, _⟩
  · go_enter Tro.func24, Tro.ntmps24
    go_wp2
    refine wp_loop_rounds 1 ?_
    rw [rounds_succ]
    go_wp2
    go_ret
    exact ⟨rfl, Below.refl _ _⟩
  · have HX : Hid (∀ i, 1 ≤ i → i < L.length → ∃ x y : Nat, L.getD (i - 1) 0 = (x : Int) ∧ L.getD i 0 = (y : Int) ∧ x < y) := fun i h1 hi => by
      have q := List.pairwise_iff_getElem.1 hp (i - 1) i (by omega) hi (by omega)
      have b1 := hb _ (List.getElem_mem (show i - 1 < L.length by omega))
      have b2 := hb _ (List.getElem_mem hi)
      refine ⟨(L.getD (i - 1) 0).toNat, (L.getD i 0).toNat, ?_⟩
      rw [List.getD_eq_getElem?_getD, List.getD_eq_getElem?_getD, List.getElem?_eq_getElem hi, List.getElem?_eq_getElem (show i - 1 < L.length by omega)]
      simp only [Option.getD_some]
      omega
    generalize hn : L.length = n at hl2 hc HX
    have HC := Lib.hid hc
    clear hn hc h hp hb
    by_cases hn0 : n = 0
    · subst hn0
      go_enter Tro.func24, Tro.ntmps24
      go_wp2
      refine wp_loop_rounds 1 ?_
      rw [rounds_succ]
      go_wp2
      go_ret
      exact ⟨rfl, Below.refl _ _⟩
    · go_enter Tro.func24, Tro.ntmps24
      go_wp2
      go_loopw [3] (fun t3 wr => ∃ k : Nat, 1 ≤ k ∧ k ≤ n ∧ t3 = .int .i64 k ∧ Below w.heap.size w wr) (fun t3 _ => n - (intOf t3).toNat)
      case atStart => exact ⟨1, Nat.le_refl _, by omega, rfl, Below.refl _ _⟩
      case round =>
        obtain ⟨k, hk0, hk, rfl, hbel⟩ := hrel
        by_cases hlt : k < n
        · obtain ⟨x, y, hx, hy, hxy⟩ := HX.out k hk0 hlt
          have d1 := (hbel.cell (p := ⟨g, k, none⟩) hg).trans (HC.out k hlt)
          have d2 := (hbel.cell (p := ⟨g, k - 1, none⟩) hg).trans (HC.out (k - 1) (by omega))
          rw [hy] at d1
          rw [hx] at d2
          clear hx hy
          have hi0 : (0 : Int) ≤ (k : Int) - 1 := by omega
          have hi1 : (k : Int) - 1 < (n : Int) := by omega
          have hi2 : (k : Int) < (n : Int) := by omega
          go_wp2
          go_region
          all_goals
            go_wp2
            go_roundw
            case rel => exact ⟨k + 1, by omega, by omega, by go_num, hbel.drew⟩
            case measure => simp [intOf]; omega
        · have : k = n := by omega
          subst this
          go_wp2
          go_ret
          exact ⟨rfl, hbel⟩
end Go.Proofs.YtjgkignnfkbeaaaTro

/-
  Contracts of the laws' comparison of two slices of numbers.
-/
namespace Go.Proofs.YtjgkignnfkbeaaaTro
open Go.RowKit
set_option linter.unusedVariables false

theorem first_diff : ∀ (L M : List Int), L.length = M.length → L ≠ M → ∃ m, m < L.length ∧ (∀ j, j < m → L.getD j 0 = M.getD j 0) ∧ L.getD m 0 ≠ M.getD m 0
  | [], [], _, h => absurd rfl h
  | [], y :: M, h, _ => by simp at h
  | x :: L, [], h, _ => by simp at h
  | x :: L, y :: M, h, hne => by
    by_cases e : x = y
    · subst e
      obtain ⟨m, h1, h2, h3⟩ := first_diff L M (by simpa using h) (fun e => hne (by rw [e]))
      refine ⟨m + 1, by simpa using h1, ?_, by simpa using h3⟩
      intro j hj
      cases j with
      | zero => rfl
      | succ j => simpa using h2 j (by omega)
    · exact ⟨0, by simp, fun j hj => by omega, by simpa using e⟩

set_option maxHeartbeats 400000 in
theorem equalInts_yes (v1 v2 : Value) (B1 B2 : Nat) (L : List Int) (w : World) (h1 : Row w B1 v1 L) (h2 : Row w B2 v2 L) :
    Calls Tro.prog 15 #[v1, v2] w fun e w' => e = .returned (.bool true) ∧ Below w.heap.size w w' := by
  by_cases hL : L = []
  · subst hL
    rcases h1.cases with ⟨rfl, _⟩ | ⟨g1, c1, rfl, _⟩ <;> rcases h2.cases with ⟨rfl, _⟩ | ⟨g2, c2, rfl, _⟩
    all_goals
      go_enter Tro.func15, Tro.ntmps15
      go_wp2
      refine wp_loop_rounds 1 ?_
      rw [rounds_succ]
      go_wp2
      go_ret
      exact ⟨rfl, Below.refl _ _⟩
  · have hl : 0 < L.length := List.length_pos_iff.2 hL
    have hl2 := h1.2
    rcases h1.cases with ⟨_, e⟩ | ⟨g1, c1, rfl, _, hg1, hc1, _⟩
    · exact absurd e hL
    rcases h2.cases with ⟨_, e⟩ | ⟨g2, c2, rfl, _, hg2, hc2, _⟩
    · exact absurd e hL
    generalize hn : L.length = n at hl hl2 hc1 hc2
    have HC1 := Lib.hid hc1
    have HC2 := Lib.hid hc2
    clear hn hc1 hc2 h1 h2 hL
    go_enter Tro.func15, Tro.ntmps15
    go_wp2
    go_loopw [5] (fun t5 wr => ∃ k : Nat, k ≤ n ∧ t5 = .int .i64 k ∧ Below w.heap.size w wr) (fun t5 _ => n - (intOf t5).toNat)
    case atStart => exact ⟨0, Nat.zero_le _, rfl, Below.refl _ _⟩
    case round =>
      obtain ⟨k, hk, rfl, hbel⟩ := hrel
      by_cases hlt2 : k < n
      · have d1 := (hbel.cell (p := ⟨g1, k, none⟩) hg1).trans (HC1.out k hlt2)
        have d2 := (hbel.cell (p := ⟨g2, k, none⟩) hg2).trans (HC2.out k hlt2)
        have hi0 : (0 : Int) ≤ (k : Int) := by omega
        have hi1 : (k : Int) < (n : Int) := by omega
        go_wp2
        go_region
        all_goals
          go_wp2
          go_roundw
          case rel => exact ⟨k + 1, by omega, by go_num, hbel.drew⟩
          case measure => simp [intOf]; omega
      · have : k = n := by omega
        subst this
        go_wp2
        go_ret
        exact ⟨rfl, hbel⟩
set_option maxHeartbeats 400000 in
theorem equalInts_no (v1 v2 : Value) (B1 B2 : Nat) (L M : List Int) (w : World) (h1 : Row w B1 v1 L) (h2 : Row w B2 v2 M) (hlen : L.length = M.length) (hne : L ≠ M) :
    Calls Tro.prog 15 #[v1, v2] w fun e w' => e = .returned (.bool false) ∧ Below w.heap.size w w' := by
  obtain ⟨m, hm, hbef, hat⟩ := first_diff L M hlen hne
  have hL : L ≠ [] := fun e => by rw [e] at hm; simp at hm
  have hM : M ≠ [] := fun e => by rw [e] at hlen; exact hL (List.eq_nil_of_length_eq_zero hlen)
  have hl2 := h1.2
  rcases h1.cases with ⟨_, e⟩ | ⟨g1, c1, rfl, _, hg1, hc1, _⟩
  · exact absurd e hL
  rcases h2.cases with ⟨_, e⟩ | ⟨g2, c2, rfl, _, hg2, hc2, _⟩
  · exact absurd e hM
  rw [← hlen] at hc2 ⊢
  · generalize hn : L.length = n at hm hl2 hc1 hc2
    have HC1 := Lib.hid hc1
    have HC2 := Lib.hid hc2
    have HBEF := Lib.hid hbef
    have HAT := Lib.hid hat
    clear hn hc1 hc2 h1 h2 hL hM hlen hne hbef hat
    go_enter Tro.func15, Tro.ntmps15
    go_wp2
    go_loopw [5] (fun t5 wr => ∃ k : Nat, k ≤ m ∧ t5 = .int .i64 k ∧ Below w.heap.size w wr) (fun t5 _ => n - (intOf t5).toNat)
    case atStart => exact ⟨0, Nat.zero_le _, rfl, Below.refl _ _⟩
    case round =>
      obtain ⟨k, hk, rfl, hbel⟩ := hrel
      have d1 := (hbel.cell (p := ⟨g1, k, none⟩) hg1).trans (HC1.out k (by omega))
      have d2 := (hbel.cell (p := ⟨g2, k, none⟩) hg2).trans (HC2.out k (by omega))
      have hi0 : (0 : Int) ≤ (k : Int) := by omega
      have hi1 : (k : Int) < (n : Int) := by omega
      by_cases hlt2 : k < m
      · rw [← HBEF.out k hlt2] at d2
        go_wp2
        go_region
        all_goals
          go_wp2
          go_roundw
          case rel => exact ⟨k + 1, by omega, by go_num, hbel.drew⟩
          case measure => simp [intOf]; omega
      · have : k = m := by omega
        subst this
        have hx : (L.getD k 0 != M.getD k 0) = true := by rw [bne_iff_ne]; exact HAT.out
        generalize L.getD k 0 = x at d1 hx
        generalize M.getD k 0 = y at d2 hx
        go_wp2
        go_region
        all_goals
          go_wp2
          go_ret
          exact ⟨rfl, hbel.drew⟩
theorem equalInts_lens (v1 v2 : Value) (B1 B2 : Nat) (L M : List Int) (w : World) (h1 : Row w B1 v1 L) (h2 : Row w B2 v2 M) (hne : L.length ≠ M.length) :
    Calls Tro.prog 15 #[v1, v2] w fun e w' => e = .returned (.bool false) ∧ Below w.heap.size w w' := by
  have e1 : ∃ a c, v1 = .slice a L.length c := by
    rcases h1.cases with ⟨rfl, rfl⟩ | ⟨g1, c1, rfl, _⟩
    · exact ⟨_, _, rfl⟩
    · exact ⟨_, _, rfl⟩
  have e2 : ∃ a c, v2 = .slice a M.length c := by
    rcases h2.cases with ⟨rfl, rfl⟩ | ⟨g1, c1, rfl, _⟩
    · exact ⟨_, _, rfl⟩
    · exact ⟨_, _, rfl⟩
  obtain ⟨a1, c1, rfl⟩ := e1
  obtain ⟨a2, c2, rfl⟩ := e2
  have hx : ((L.length : Int) != (M.length : Int)) = true := by rw [bne_iff_ne]; omega
  generalize L.length = l at hx
  generalize M.length = m at hx
  clear h1 h2 hne
  go_enter Tro.func15, Tro.ntmps15
  go_wp2
  go_ret
  exact ⟨rfl, Below.refl _ _⟩

end Go.Proofs.YtjgkignnfkbeaaaTro

/-
  The contract of the laws' isIn, where the number is in the list.
-/
namespace Go.Proofs.YtjgkignnfkbeaaaTro
open Go.RowKit
set_option linter.unusedVariables false
set_option maxRecDepth 20000

theorem first_in {L : List Int} {x : Int} : x ∈ L → ∃ I, I < L.length ∧ L.getD I 0 = x ∧ ∀ j, j < I → L.getD j 0 ≠ x := by
  intro h
  induction L with
  | nil => cases h
  | cons a L ih =>
    by_cases ha : a = x
    · exact ⟨0, by simp, by simpa using ha, fun j hj => by omega⟩
    · rcases List.mem_cons.1 h with rfl | h
      · exact absurd rfl ha
      · obtain ⟨I, h1, h2, h3⟩ := ih h
        refine ⟨I + 1, by simpa using h1, by simpa using h2, fun j hj => ?_⟩
        match j with
        | 0 => simpa using ha
        | j + 1 => simpa using h3 j (by omega)
set_option maxHeartbeats 400000 in
theorem isIn_yes (v : Value) (B : Nat) (L : List Int) (x : Int) (w : World) (hr : Row w B v L) (hx : x ∈ L) :
    Calls Tro.prog 23 #[v, .int .i64 x] w fun e w' => e = .returned (.bool true) ∧ Below w.heap.size w w' := by
  obtain ⟨I, hI, hxI, hno⟩ := first_in hx
  have hlen := hr.2
  obtain ⟨g, c, rfl, hg, hgl, hcell, _⟩ := hr.cases.resolve_left (fun q => by rw [q.2] at hx; cases hx)
  obtain ⟨m, hm⟩ : ∃ m, m = L.length := ⟨_, rfl⟩
  rw [← hm] at hI hlen hcell ⊢
  have HC := Lib.hid hcell
  have HN := Lib.hid hno
  have HX := Lib.hid hxI
  clear hm hcell hno hxI hx hr
  go_enter Tro.func23, Tro.ntmps23
  go_wp2
  go_loopw [5] (fun t3 wr => ∃ i : Nat, i ≤ I ∧ t3 = .int .i64 (i : Int) ∧ Hid (Below w.heap.size w wr)) (fun t3 _ => I + 1 - (intOf t3).toNat)
  case atStart => exact ⟨0, Nat.zero_le _, rfl, Below.refl _ _⟩
  case round =>
    obtain ⟨i, hi, rfl, HB⟩ := hrel
    have c0 := (HB.out.cell (p := ⟨g, i, none⟩) hgl).trans (HC.out i (by omega))
    have i0 : (0 : Int) ≤ (i : Int) := by omega
    have i1 : (i : Int) < (m : Int) := by omega
    have k1 := IntWalk.i64_in ((i : Int) + 1) (by omega)
    by_cases hlt : i < I
    · have hne := HN.out i hlt
      generalize L.getD i 0 = y at *
      have hq : (y == x) = false := beq_eq_false_iff_ne.2 hne
      go_wp2
      go_roundw
      case rel => exact ⟨i + 1, by omega, by go_num, HB⟩
      case measure => simp [intOf]; omega
    · obtain rfl : i = I := by omega
      rw [HX.out] at c0
      go_wp2
      go_ret
      exact ⟨rfl, HB.out⟩
end Go.Proofs.YtjgkignnfkbeaaaTro

/-
  The walk of FnPathTo, where a sequential body stands for nearestTo.
-/
namespace Go.Proofs.YtjgkignnfkbeaaaTro
open Go.RowKit
set_option linter.unusedVariables false
set_option maxRecDepth 20000

theorem FnPathTo_no (x : Option Addr) (len cap : Nat) (w : World) (hl : 1048576 < len) :
    Calls Tro.prog 6 #[.slice x len cap] w fun e w' => e = .returned (.bool true) ∧ Below w.heap.size w w' := by
  go_enter Tro.func6, Tro.ntmps6
  go_wp2_with fail
  go_ret
  exact ⟨rfl, Below.refl _ _⟩
set_option maxHeartbeats 1600000 in
theorem FnPathTo_walk (x : Option Addr) (len cap : Nat) (w : World) (h : Code w x len cap) :
    Calls Tro.prog 6 #[.slice x len cap] w fun e w' => e = .returned (.bool true) ∧ Below w.heap.size w w' := by
  by_cases hl : 1048576 < len
  · exact FnPathTo_no x len cap w hl
  · go_enter Tro.func6, Tro.ntmps6
    go_wp2_with fail
    refine (drawPathTo _ _ _ _ h).mono ?_; rintro e w1 ⟨n, a, b, rfl, n0, n1, a0, a1, b0, b1, hb⟩
    have HB := Lib.hid hb
    clear hb h hl
    have hz := HB.out.size
    rcases Classical.em (Voices n a b) with hv | hv
    · have HI := Lib.hid (fun w => iPathTo_yes n a b w hv)
      have HS := Lib.hid (fun w => sPathTo_yes n a b w hv)
      have HST := Lib.hid (fun w => iStepsTo_yes n a b w hv)
      have g1 := hv.1.1
      have g2 := hv.1.2.1
      have h0B := hv.symm.pos
      have hBl := valid_lt hv.2.1
      have hd := dst_144 (n := n.toNat) (A := a.toNat) (B := b.toNat) (by omega)
      have HPT := pts_is (n := n.toNat) (B := b.toNat) (A := a.toNat) (by omega) (by omega) hBl h0B hv.symm.lk
      have HIY : Hid (∀ i w, i < dst n.toNat a.toNat b.toNat → Calls Tro.prog 20 #[.int .i64 n, .int .i64 ((wayL n a b).getD i 0)] w fun e w' => ∃ v M, e = .returned v ∧ Row w' w.heap.size v M ∧ (wayL n a b).getD (i + 1) 0 ∈ M ∧ Below w.heap.size w w') := Lib.hid (fun i w hi => by
        unfold wayL
        rw [pathL_at _ _ _ _ i (by omega), pathL_at _ _ _ _ (i + 1) (by omega)]
        obtain ⟨h1, h2⟩ := HPT i (by omega)
        have hne : pts n.toNat b.toNat a.toNat i ≠ b.toNat := fun e => by
          have := (dst_pos (n := n.toNat) (by omega) (by omega) h1.1 hBl h1.2 h0B).2 e
          omega
        have hpk := pick_is (chosen_some (n := n.toNat) (B := b.toNat) (by omega) (by omega) hBl h0B h1 hne)
        have hon := (on_is (n := n.toNat) (B := b.toNat) (by omega) (by omega) hBl h0B h1 hne).2.2
        refine (iNearOf_yes n (pts n.toNat b.toNat a.toNat i : Int) w (valid_of hv.2.1 h1)).mono (fun e w' ⟨v, q1, q2, q3⟩ => ⟨v, _, q1, q2, ?_, q3⟩)
        rw [Int.toNat_natCast]
        show ((onTo n.toNat b.toNat (pts n.toNat b.toNat a.toNat i) : Nat) : Int) ∈ nearS n.toNat (pts n.toNat b.toNat a.toNat i)
        rw [← hon]
        exact getD_mem hpk.1)
      have HL0 : Hid ((wayL n a b).getD 0 0 = a) := Lib.hid (by
        unfold wayL
        rw [pathL_at _ _ _ _ 0 (by omega)]
        show ((a.toNat : Nat) : Int) = a
        have := hv.1.2.2.1
        omega)
      have HLN : Hid ((wayL n a b).getD (dst n.toNat a.toNat b.toNat) 0 = b) := Lib.hid (by
        unfold wayL
        rw [pathL_at _ _ _ _ _ (Nat.le_refl _)]
        obtain ⟨h1, h2⟩ := HPT _ (Nat.le_refl _)
        have := (dst_pos (n := n.toNat) (by omega) (by omega) h1.1 hBl h1.2 h0B).1 (by omega)
        rw [this]
        have := hv.2.1.2.2.1
        omega)
      have hlen : (wayL n a b).length = dst n.toNat a.toNat b.toNat + 1 := by unfold wayL; rw [pathL_len]
      unfold stP at HST
      generalize wayL n a b = L at *
      generalize dst n.toNat a.toNat b.toNat = d at *
      have HM := Lib.hid hlen
      clear n0 n1 a0 a1 b0 b1 hv g1 g2 h0B hBl HPT
      have kd := IntWalk.i64_in ((d : Int) + 1) (by omega)
      go_wp2_with fail
      refine (HI.out _).mono ?_; rintro e w2 ⟨v, rfl, hr, hb2⟩
      have HR := Lib.hid hr
      have HB2 := Lib.hid (HB.out.trans (hb2.mono hz))
      have hz2 := HB2.out.size
      clear hr hb2
      go_wp2_with fail
      refine (HS.out _).mono ?_; rintro e w3 ⟨v3, rfl, hr3, hb3⟩
      have HR3 := Lib.hid hr3
      have HRk := Lib.hid (HR.out.kept hb3)
      have HB3 := Lib.hid (HB2.out.trans (hb3.mono hz2))
      have hz3 := HB3.out.size
      clear hr3 hb3 HR
      go_wp2_with fail
      refine (equalInts_yes _ _ _ _ _ _ HRk.out HR3.out).mono ?_; rintro e w4 ⟨rfl, hb4⟩
      have HR4 := Lib.hid (HRk.out.kept hb4)
      have HB4 := Lib.hid (HB3.out.trans (hb4.mono hz3))
      have hz4 := HB4.out.size
      clear hb4 HRk HR3
      obtain ⟨g, c, e0, hg, hgl, hcell, _⟩ := HR4.out.cases.resolve_left (fun q => by rw [q.2] at hlen; simp at hlen)
      subst e0
      have HC : Hid (∀ W, Below w4.heap.size w4 W → ∀ i, i < L.length → W.cell? ⟨g, i, none⟩ = some (.int .i64 (L.getD i 0))) := Lib.hid (fun W hW i hi => (hW.cell (p := ⟨g, i, none⟩) hgl).trans (hcell i hi))
      obtain ⟨m, hm⟩ : ∃ m, m = L.length := ⟨_, rfl⟩
      rw [← hm] at hlen hcell HC HM ⊢
      clear hm hcell HI HS HR4
      have hmb : 1 ≤ m ∧ m ≤ 145 := by omega
      have hm0 : ¬ (m : Int) = 0 := by omega
      have hm1 : ((m : Int) == 0) = false := beq_eq_false_iff_ne.2 hm0
      clear hlen hd
      go_wp2
      go_loopw [7] (fun t7 wr => ∃ i : Nat, i + 1 ≤ m ∧ t7 = .int .i64 (i : Int) ∧ Hid (Below w4.heap.size w4 wr)) (fun t7 _ => m - (intOf t7).toNat)
      case atStart => exact ⟨0, by omega, rfl, Below.refl _ _⟩
      case round =>
        obtain ⟨i, hi, rfl, HBI⟩ := hrel
        have hzi := HBI.out.size
        have HBW := Lib.hid (HB4.out.trans (HBI.out.mono hz4))
        have hzw := HBW.out.size
        have k1 := IntWalk.i64_in ((i : Int) + 1) (by omega)
        by_cases hlt : i + 1 < m
        · have HI1 := Lib.hid (fun w => HIY.out i w (by have := HM.out; omega))
          have HC1 : Hid (∀ W, Below wr.heap.size wr W → W.cell? ⟨g, i, none⟩ = some (.int .i64 (L.getD i 0)) ∧ W.cell? ⟨g, i + 1, none⟩ = some (.int .i64 (L.getD (i + 1) 0))) := Lib.hid (fun W hW => ⟨HC.out W (HBI.out.trans (hW.mono hzi)) i (by omega), HC.out W (HBI.out.trans (hW.mono hzi)) (i + 1) (by omega)⟩)
          generalize L.getD i 0 = y at *
          generalize L.getD (i + 1) 0 = y' at *
          have i0 : (0 : Int) ≤ (i : Int) := by omega
          have i1 : (i : Int) < (m : Int) := by omega
          have j0 : (0 : Int) ≤ (i : Int) + 1 := by omega
          have j1 : (i : Int) + 1 < (m : Int) := by omega
          have hk0 : Below wr.heap.size wr wr := Below.refl _ _
          go_upto_region 10 with fail
          go_region_held3 (fun W => W.cell? ⟨g, i, none⟩ = some (.int .i64 y) ∧ W.cell? ⟨g, i + 1, none⟩ = some (.int .i64 y'))
            (exact HC1.out _ (by first | exact hk0 | exact hk0.drew))
            (first
              | (go_at_call 20; refine (HI1.out _).mono ?_; rintro e w6 ⟨v6, M6, rfl, hr6, hs6, hb⟩; have HR6 := Lib.hid hr6; have HS6 := Lib.hid hs6; replace hk0 : Below wr.heap.size wr w6 := (by first | exact grow1 hk0 hb | exact grow0 hk0 hb); clear hb hr6 hs6)
              | (go_at_call 23; refine (isIn_yes _ _ _ _ _ (by first | exact HR6.out | exact HR6.out.drew) HS6.out).mono ?_; rintro e w7 ⟨rfl, hb⟩; replace hk0 : Below wr.heap.size wr w7 := (by first | exact grow1 hk0 hb | exact grow0 hk0 hb); clear hb)
              | fail)
          all_goals
            have HB8 := Lib.hid (HBI.out.trans (hk0.mono hzi))
            clear hk0
            go_wp2
            go_roundw
            case rel => exact ⟨i + 1, by omega, by go_num, HB8⟩
            case measure => simp [intOf]; omega
        · have hid : i = d := by have := HM.out; omega
          subst hid
          have c0 := HC.out wr HBI.out 0 (by omega)
          have c1 := HC.out wr HBI.out i (by omega)
          rw [HL0.out] at c0
          rw [HLN.out] at c1
          have e1 : ((m : Int)) - 1 = (i : Int) := by omega
          have k2 := (IntWalk.i64_in ((m : Int) - 1) (by omega)).trans e1
          have e2 : ((m : Int)) = (i : Int) + 1 := by omega
          have c2 : wr.cell? ⟨g, m - 1, none⟩ = some (.int .i64 b) := by rw [show m - 1 = i by omega]; exact c1
          have i0 : (0 : Int) ≤ (i : Int) := by omega
          have i1 : (i : Int) < (m : Int) := by omega
          have m0 : (0 : Int) < (m : Int) := by omega
          have hnl : ¬ ((i : Int) + 1 < (m : Int)) := by omega
          have q1 : ((m : Int) == (i : Int) + 1) = true := by rw [e2]; simp
          clear HM HIY
          go_wp2_with fail
          refine (HST.out _).mono ?_; rintro e w6 ⟨rfl, hb6⟩
          have HB6 := Lib.hid (HBW.out.trans (hb6.mono hzw))
          clear hb6
          go_wp2_with fail
          go_ret
          exact ⟨rfl, HB6.out⟩
    · have HI := Lib.hid (fun w => iPathTo_no n a b w hv)
      have HS := Lib.hid (fun w => sPathTo_no n a b w hv)
      clear n0 n1 a0 a1 b0 b1 hv
      go_wp2_with fail
      refine (HI.out _).mono ?_; rintro e w2 ⟨v, rfl, hr, hb2⟩
      have HR := Lib.hid hr
      have HB2 := Lib.hid (HB.out.trans (hb2.mono hz))
      have hz2 := HB2.out.size
      clear hr hb2
      go_wp2_with fail
      refine (HS.out _).mono ?_; rintro e w3 ⟨v3, rfl, hr3, hb3⟩
      have HR3 := Lib.hid hr3
      have HRk := Lib.hid (HR.out.kept hb3)
      have HB3 := Lib.hid (HB2.out.trans (hb3.mono hz2))
      have hz3 := HB3.out.size
      clear hr3 hb3 HR
      obtain ⟨pa, pc, rfl⟩ := HRk.out.lenz
      go_wp2_with fail
      refine (equalInts_yes _ _ _ _ _ _ HRk.out HR3.out).mono ?_; rintro e w4 ⟨rfl, hb4⟩
      have HR4 := Lib.hid (HRk.out.kept hb4)
      have HB4 := Lib.hid (HB3.out.trans (hb4.mono hz3))
      have hz4 := HB4.out.size
      clear hb4 HRk HR3
      go_wp2_with fail
      refine (HS.out _).mono ?_; rintro e w6 ⟨v6, rfl, hr6, hb6⟩
      have HR6 := Lib.hid hr6
      have HRk := Lib.hid (HR4.out.kept hb6)
      have HB6 := Lib.hid (HB4.out.trans (hb6.mono hz4))
      have hz6 := HB6.out.size
      clear hr6 hb6 HR4
      go_wp2_with fail
      refine (equalInts_yes _ _ _ _ _ _ HRk.out HR6.out).mono ?_; rintro e w7 ⟨rfl, hb7⟩
      have HB7 := Lib.hid (HB6.out.trans (hb7.mono hz6))
      clear hb7
      go_wp2_with fail
      go_ret
      exact ⟨rfl, HB7.out⟩
end Go.Proofs.YtjgkignnfkbeaaaTro
