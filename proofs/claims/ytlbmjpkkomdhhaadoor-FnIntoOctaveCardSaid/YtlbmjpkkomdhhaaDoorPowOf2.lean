/-
  Contract of the model's PowersOf.
-/
import Derived.Test.YtlbmjpkkomdhhaaDoorPowOf
namespace Go.Proofs.YtlbmjpkkomdhhaaDoor
open Go.RowKit
set_option linter.unusedVariables false
set_option maxRecDepth 20000

namespace Tic
def prm : Nat → Nat
  | 0 => 2
  | 1 => 3
  | _ => 5
def lfi (x : Nat) : Nat → Nat
  | 0 => x
  | i + 1 => lf (prm i) (lfi x i)
def pki (u d i : Nat) : Int := (vp (prm i) (lfi u i) : Int) - vp (prm i) (lfi d i)
def pwTo (u d : Nat) : Nat → List Int
  | 0 => []
  | i + 1 => pwTo u d i ++ [pki u d i]
theorem prm_bd (i : Nat) : 2 ≤ prm i ∧ prm i ≤ 5 := by unfold prm; split <;> omega
theorem num_lfi {x : Nat} (h : Num x) : ∀ i, Num (lfi x i)
  | 0 => h
  | i + 1 => (lf_num (prm_bd i).1 _ _ rfl (num_lfi h i)).1
theorem pwTo_three (u d : Nat) : pwTo u d 3 = [pwa u d, pwb u d, pwc u d] := rfl
theorem lfi_three (x : Nat) : lfi x 3 = lft x := rfl
theorem pwTo_len (u d : Nat) : ∀ i, (pwTo u d i).length = i
  | 0 => rfl
  | i + 1 => by unfold pwTo; rw [List.length_append, pwTo_len u d i]; rfl
end Tic
theorem sPowers_bad (u d : Int) (w : World) (h : ¬ (1 ≤ u ∧ u ≤ 1000000 ∧ 1 ≤ d ∧ d ≤ 1000000)) :
    Calls Tryd.prog 18 #[.int .i64 u, .int .i64 d] w (GivesOk [] false w) := by
  by_cases h1 : 1 ≤ u ∧ u ≤ 1000000
  · have h2 : d < 1 ∨ 1000000 < d := by omega
    obtain ⟨h1, h1'⟩ := h1
    clear h
    go_enter Tryd.func18, Tryd.ntmps18
    go_wp2_with fail
    refine (inRange_yes _ _ _ _ h1 h1').mono ?_; rintro e w' ⟨rfl, rfl⟩
    go_wp2_with fail
    refine (inRange_no _ _ _ _ h2).mono ?_; rintro e w' ⟨rfl, rfl⟩
    go_wp2
    go_ret2
    exact ⟨_, rfl, Row.nil _ _, Below.refl _ _⟩
  · have h2 : u < 1 ∨ 1000000 < u := by omega
    clear h h1
    go_enter Tryd.func18, Tryd.ntmps18
    go_wp2_with fail
    refine (inRange_no _ _ _ _ h2).mono ?_; rintro e w' ⟨rfl, rfl⟩
    go_wp2
    go_ret2
    exact ⟨_, rfl, Row.nil _ _, Below.refl _ _⟩
/-- the block g holds 2, 3 and 5 -/
def Bases (w : World) (g : Nat) : Prop := ∀ i, i < 3 → w.cell? ⟨g, i, none⟩ = some (.int .i64 (Tic.prm i : Int))
set_option maxRecDepth 20000 in
set_option maxHeartbeats 1600000 in
theorem sPowers_num (u d : Nat) (w : World) (h1 : Tic.Num u) (h2 : Tic.Num d) :
    Calls Tryd.prog 18 #[.int .i64 u, .int .i64 d] w (GivesInto (tolds u d) w) := by
  have HOY : Hid (Tic.lft u = Tic.lft d ∧ Tic.Pws (Tic.pwa u d) (Tic.pwb u d) (Tic.pwc u d) → tolds u d = some [Tic.pwa u d, Tic.pwb u d, Tic.pwc u d]) := Lib.hid (fun h => (tolds_num h1 h2).trans (if_pos (show Tic.Told u d from h)))
  have HON : Hid (¬ (Tic.lft u = Tic.lft d ∧ Tic.Pws (Tic.pwa u d) (Tic.pwb u d) (Tic.pwc u d)) → tolds u d = none) := Lib.hid (fun h => (tolds_num h1 h2).trans (if_neg (show ¬ Tic.Told u d from h)))
  generalize tolds u d = O at HOY HON ⊢
  have NU := Lib.hid (fun i => Tic.num_lfi h1 i)
  have ND := Lib.hid (fun i => Tic.num_lfi h2 i)
  obtain ⟨u0, u1⟩ := h1
  obtain ⟨d0, d1⟩ := h2
  go_enter Tryd.func18, Tryd.ntmps18
  go_wp2_with fail
  refine (inRange_yes _ _ _ _ (by omega) (by omega)).mono ?_; rintro e w' ⟨rfl, rfl⟩
  go_wp2_with fail
  refine (inRange_yes _ _ _ _ (by omega) (by omega)).mono ?_; rintro e w' ⟨rfl, rfl⟩
  go_wp2
  have hb1 := (Below.refl w.heap.size w).alloc (Nat.le_refl _) (.cells #[] 3)
  have HB : Hid (Below w.heap.size w ((w.alloc (.cells #[] 3)).alloc (.cells #[.int .i64 2, .int .i64 3, .int .i64 5] 3))) := Lib.hid (hb1.alloc (by simp) _)
  have HR : Hid (Row ((w.alloc (.cells #[] 3)).alloc (.cells #[.int .i64 2, .int .i64 3, .int .i64 5] 3)) w.heap.size (.slice (some ⟨w.heap.size, 0, none⟩) 0 0) (Tic.pwTo u d 0)) := Lib.hid
    (Row.alloc ⟨World.ownsRow_made w #[] 0 (Nat.le_refl _) (by decide) rfl, Nat.zero_le _⟩ _)
  have HX : Hid (Bases ((w.alloc (.cells #[] 3)).alloc (.cells #[.int .i64 2, .int .i64 3, .int .i64 5] 3)) (w.heap.size + 1)) := Lib.hid (fun i hi => by
    obtain rfl | rfl | rfl : i = 0 ∨ i = 1 ∨ i = 2 := by omega
    all_goals (go_simp; rfl))
  have hsz : w.heap.size + 1 + 1 ≤ ((w.alloc (.cells #[] 3)).alloc (.cells #[.int .i64 2, .int .i64 3, .int .i64 5] 3)).heap.size := by simp
  generalize ((w.alloc (.cells #[] 3)).alloc (.cells #[.int .i64 2, .int .i64 3, .int .i64 5] 3)) = W at *
  clear hb1
  go_loopw [0, 1, 6, 8, 9] (fun t0 t1 t6 t8 t9 wr => ∃ i : Nat, i ≤ 3 ∧ t8 = .int .i64 i ∧ t0 = .int .i64 (Tic.lfi u i : Int) ∧ t1 = .int .i64 (Tic.lfi d i : Int) ∧ Hid (Row wr w.heap.size t6 (Tic.pwTo u d i)) ∧ Hid (t6.ownBlock ≠ some (w.heap.size + 1)) ∧ Hid (Bases wr (w.heap.size + 1)) ∧ Hid (Below w.heap.size w wr) ∧ w.heap.size + 1 + 1 ≤ wr.heap.size) (fun _ _ _ t8 _ _ => 3 - (intOf t8).toNat)
  case atStart => exact ⟨0, Nat.zero_le _, rfl, rfl, rfl, HR, Lib.hid (by simp [Value.ownBlock]), HX, HB, hsz⟩
  case round =>
    clear HB HR HX hsz
    clear W
    obtain ⟨i, hi, rfl, rfl, rfl, HR, HO, HX, HB, hsz⟩ := hrel
    by_cases hlt : i < 3
    · have hc := HX.out i hlt
      obtain ⟨p1, p2⟩ := Tic.prm_bd i
      have N1 := NU.out i
      have N2 := ND.out i
      have hiI : (i : Int) < 3 := by omega
      have V1 := (Tic.lf_num p1 _ _ rfl N1).2.2.2
      have V2 := (Tic.lf_num p1 _ _ rfl N2).2.2.2
      have HK : Hid (Tic.pwTo u d (i + 1) = Tic.pwTo u d i ++ [Tic.pki u d i]) := Lib.hid rfl
      have HKI : Hid (Tic.pki u d i = (Tic.vp (Tic.prm i) (Tic.lfi u i) : Int) - Tic.vp (Tic.prm i) (Tic.lfi d i)) := Lib.hid rfl
      have HU : Hid (Tic.lfi u (i + 1) = Tic.lf (Tic.prm i) (Tic.lfi u i)) := Lib.hid rfl
      have HD : Hid (Tic.lfi d (i + 1) = Tic.lf (Tic.prm i) (Tic.lfi d i)) := Lib.hid rfl
      generalize Tic.prm i = p at *
      generalize Tic.lfi u i = a at *
      generalize Tic.lfi d i = b at *
      have A1 := Lib.hid N1
      have A2 := Lib.hid N2
      have a1 := N1.2
      have b1 := N2.2
      have hp0 : ¬ p = 0 := by omega
      generalize hL1 : Tic.lf p a = La at HU
      generalize hL2 : Tic.lf p b = Lb at HD
      have HL1 := Lib.hid hL1
      have HL2 := Lib.hid hL2
      clear hL1 hL2 N1 N2
      go_wp2
      go_loop [0, 1] (fun t0 t1 => ∃ x y : Nat, Hid (Tic.Num x) ∧ Hid (Tic.Num y) ∧ x ≤ 1000000 ∧ y ≤ 1000000 ∧ t0 = .int .i64 x ∧ t1 = .int .i64 y ∧ Hid ((Tic.vp p x : Int) - Tic.vp p y = Tic.pki u d i) ∧ Hid (Tic.lf p x = La) ∧ Hid (Tic.lf p y = Lb) ∧ Tic.vp p x ≤ 19 ∧ Tic.vp p y ≤ 19) (fun t0 _ => (intOf t0).toNat)
      case atStart => exact ⟨a, b, A1, A2, a1, b1, rfl, rfl, Lib.hid HKI.out.symm, HL1, HL2, V1, V2⟩
      case round =>
        clear A1 A2 a1 b1 V1 V2 HKI HL1 HL2
        obtain ⟨x, y, A1, A2, a1, b1, rfl, rfl, HKI, HL1, HL2, V1, V2⟩ := hrel
        by_cases hxy : x % p = 0 ∧ y % p = 0
        · obtain ⟨hx, hy⟩ := hxy
          have q1 := rem_yes hx
          have q2 := rem_yes hy
          have c1 := quot_cast x p
          have c2 := quot_cast y p
          obtain ⟨e1, e2⟩ := Tic.vp_yes p1 A1.out hx
          obtain ⟨g1, g2⟩ := Tic.vp_yes p1 A2.out hy
          have HKI2 : Hid ((Tic.vp p (x / p) : Int) - Tic.vp p (y / p) = Tic.pki u d i) := Lib.hid (by have := HKI.out; rw [e1, g1] at this; omega)
          have HL12 : Hid (Tic.lf p (x / p) = La) := Lib.hid (by rw [← e2]; exact HL1.out)
          have HL22 : Hid (Tic.lf p (y / p) = Lb) := Lib.hid (by rw [← g2]; exact HL2.out)
          have B1 := Lib.hid (A1.out.quot p1 hx)
          have B2 := Lib.hid (A2.out.quot p1 hy)
          have lt1 : x / p < x := Nat.div_lt_self A1.out.1 (by omega)
          have lt2 : y / p < y := Nat.div_lt_self A2.out.1 (by omega)
          have v1 : Tic.vp p (x / p) ≤ 19 := by omega
          have v2 : Tic.vp p (y / p) ≤ 19 := by omega
          clear hx hy e1 e2 g1 g2 HKI HL1 HL2 V1 V2
          generalize x / p = x' at *
          generalize y / p = y' at *
          go_wp2
          go_round
          case rel => exact ⟨x', y', B1, B2, by omega, by omega, rfl, rfl, HKI2, HL12, HL22, v1, v2⟩
          case measure => simp [intOf]; omega
        · have hor : (¬ x % p = 0) ∨ (x % p = 0 ∧ ¬ y % p = 0) := by
            by_cases h : x % p = 0
            · exact .inr ⟨h, fun h2 => hxy ⟨h, h2⟩⟩
            · exact .inl h
          clear hxy
          rcases hor with hx | ⟨hx, hy⟩
          · have q1 := rem_no hx
            clear hx
            go_wp2
            go_loop [0, 9] (fun t0 t9 => ∃ (z : Nat) (k : Int), Hid (Tic.Num z) ∧ z ≤ 1000000 ∧ t0 = .int .i64 z ∧ t9 = .int .i64 k ∧ -100 ≤ k ∧ k + Tic.vp p z ≤ 19 ∧ Hid (k + Tic.vp p z - Tic.vp p y = Tic.pki u d i) ∧ Hid (Tic.lf p z = La)) (fun t0 _ => (intOf t0).toNat)
            case atStart => exact ⟨x, 0, A1, a1, rfl, rfl, by omega, by omega, Lib.hid (by have := HKI.out; omega), HL1⟩
            case round =>
              clear A1 a1 V1 HKI HL1
              obtain ⟨z, k, A1, a1, rfl, rfl, k1, k2, HKI, HL1⟩ := hrel
              by_cases hz : z % p = 0
              · have q3 := rem_yes hz
                have c1 := quot_cast z p
                obtain ⟨e1, e2⟩ := Tic.vp_yes p1 A1.out hz
                have HKI2 : Hid (k + 1 + Tic.vp p (z / p) - Tic.vp p y = Tic.pki u d i) := Lib.hid (by have := HKI.out; rw [e1] at this; omega)
                have HL12 : Hid (Tic.lf p (z / p) = La) := Lib.hid (by rw [← e2]; exact HL1.out)
                have B1 := Lib.hid (A1.out.quot p1 hz)
                have lt1 : z / p < z := Nat.div_lt_self A1.out.1 (by omega)
                have k3 : k + 1 + Tic.vp p (z / p) ≤ 19 := by omega
                clear hz e1 e2 HKI HL1 k2
                generalize z / p = z' at *
                go_wp2
                go_round
                case rel => exact ⟨z', k + 1, B1, by omega, rfl, rfl, by omega, k3, HKI2, HL12⟩
                case measure => simp [intOf]; omega
              · have q3 := rem_no hz
                obtain ⟨e1, e2⟩ := Tic.vp_no (p := p) hz
                have HKI2 : Hid (k - Tic.vp p y = Tic.pki u d i) := Lib.hid (by have := HKI.out; rw [e1] at this; omega)
                have HZ : Hid (z = La) := Lib.hid (by rw [← HL1.out, e2])
                clear hz e1 e2 HKI HL1
                go_wp2
                go_loop [1, 9] (fun t1 t9 => ∃ (z : Nat) (k : Int), Hid (Tic.Num z) ∧ z ≤ 1000000 ∧ t1 = .int .i64 z ∧ t9 = .int .i64 k ∧ -119 + Tic.vp p z ≤ k ∧ k ≤ 19 ∧ Tic.vp p z ≤ 19 ∧ Hid (k - Tic.vp p z = Tic.pki u d i) ∧ Hid (Tic.lf p z = Lb)) (fun t1 _ => (intOf t1).toNat)
                case atStart => exact ⟨y, k, A2, b1, rfl, rfl, by omega, by omega, V2, HKI2, HL2⟩
                case round =>
                  clear A2 b1 V2 HKI2 HL2 k1 k2
                  obtain ⟨zz, k, A2, b1, rfl, rfl, k1, k2, V2, HKI, HL2⟩ := hrel
                  by_cases hz2 : zz % p = 0
                  · have q4 := rem_yes hz2
                    have c2 := quot_cast zz p
                    obtain ⟨e1, e2⟩ := Tic.vp_yes p1 A2.out hz2
                    have HKI2 : Hid (k - 1 - Tic.vp p (zz / p) = Tic.pki u d i) := Lib.hid (by have := HKI.out; rw [e1] at this; omega)
                    have HL22 : Hid (Tic.lf p (zz / p) = Lb) := Lib.hid (by rw [← e2]; exact HL2.out)
                    have B2 := Lib.hid (A2.out.quot p1 hz2)
                    have lt2 : zz / p < zz := Nat.div_lt_self A2.out.1 (by omega)
                    have k3 : -119 + (Tic.vp p (zz / p) : Int) ≤ k - 1 := by omega
                    have v3 : Tic.vp p (zz / p) ≤ 19 := by omega
                    clear hz2 e1 e2 HKI HL2 k1 V2
                    generalize zz / p = z' at *
                    go_wp2
                    go_round
                    case rel => exact ⟨z', k - 1, B2, by omega, rfl, rfl, k3, by omega, v3, HKI2, HL22⟩
                    case measure => simp [intOf]; omega
                  · have q4 := rem_no hz2
                    obtain ⟨e1, e2⟩ := Tic.vp_no (p := p) hz2
                    have HKI2 : Hid (k = Tic.pki u d i) := Lib.hid (by have := HKI.out; rw [e1] at this; omega)
                    have HZ2 : Hid (zz = Lb) := Lib.hid (by rw [← HL2.out, e2])
                    clear hz2 e1 e2 HKI HL2
                    have hlen := Tic.pwTo_len u d i
                    have hgsz := HR.out
                    go_wp2_with (at_builtin; refine wpList_append_row rfl _ _ rfl w.heap.size _ (Tic.pwTo u d i) rfl (HR.out.alloc _) wr.heap.size 1 k rfl (by go_simp) (by omega) (by simp; omega) ?_)
                    intro v' w4 hrow hb4 hg hblk
                    have HR4 : Hid (Row w4 w.heap.size v' (Tic.pwTo u d (i + 1))) := Lib.hid (by rw [HK.out, ← HKI2.out]; exact hrow)
                    have HO4 : Hid (v'.ownBlock ≠ some (w.heap.size + 1)) := Lib.hid (by
                      rcases hblk with q | q
                      · rw [q]; exact HO.out
                      · rw [q]; simp; omega)
                    have HX4 : Hid (Bases w4 (w.heap.size + 1)) := Lib.hid (fun j hj =>
                      (World.cell?_of_block (a := ⟨w.heap.size + 1, j, none⟩) (hg.block (w.heap.size + 1) (by simp; omega) (fun e => HO.out e.symm))).trans (Lib.cell?_alloc_some _ (HX.out j hj)))
                    have HB4 : Hid (Below w.heap.size w w4) := Lib.hid ((HB.out.alloc HB.out.size _).trans hb4)
                    have hs4 : w.heap.size + 1 + 1 ≤ w4.heap.size := by have := hb4.size; simp at this; omega
                    clear hrow hb4 hg hblk hgsz
                    go_wp2
                    go_roundw
                    case rel => exact ⟨i + 1, by omega, by go_num, by rw [HU.out, ← HZ.out], by rw [HD.out, ← HZ2.out], HR4, HO4, HX4, HB4, hs4⟩
                    case measure => simp [intOf]; omega
          · have q1 := rem_yes hx
            have q2 := rem_no hy
            clear hx hy
            go_wp2
            go_loop [0, 9] (fun t0 t9 => ∃ (z : Nat) (k : Int), Hid (Tic.Num z) ∧ z ≤ 1000000 ∧ t0 = .int .i64 z ∧ t9 = .int .i64 k ∧ -100 ≤ k ∧ k + Tic.vp p z ≤ 19 ∧ Hid (k + Tic.vp p z - Tic.vp p y = Tic.pki u d i) ∧ Hid (Tic.lf p z = La)) (fun t0 _ => (intOf t0).toNat)
            case atStart => exact ⟨x, 0, A1, a1, rfl, rfl, by omega, by omega, Lib.hid (by have := HKI.out; omega), HL1⟩
            case round =>
              clear A1 a1 V1 HKI HL1
              obtain ⟨z, k, A1, a1, rfl, rfl, k1, k2, HKI, HL1⟩ := hrel
              by_cases hz : z % p = 0
              · have q3 := rem_yes hz
                have c1 := quot_cast z p
                obtain ⟨e1, e2⟩ := Tic.vp_yes p1 A1.out hz
                have HKI2 : Hid (k + 1 + Tic.vp p (z / p) - Tic.vp p y = Tic.pki u d i) := Lib.hid (by have := HKI.out; rw [e1] at this; omega)
                have HL12 : Hid (Tic.lf p (z / p) = La) := Lib.hid (by rw [← e2]; exact HL1.out)
                have B1 := Lib.hid (A1.out.quot p1 hz)
                have lt1 : z / p < z := Nat.div_lt_self A1.out.1 (by omega)
                have k3 : k + 1 + Tic.vp p (z / p) ≤ 19 := by omega
                clear hz e1 e2 HKI HL1 k2
                generalize z / p = z' at *
                go_wp2
                go_round
                case rel => exact ⟨z', k + 1, B1, by omega, rfl, rfl, by omega, k3, HKI2, HL12⟩
                case measure => simp [intOf]; omega
              · have q3 := rem_no hz
                obtain ⟨e1, e2⟩ := Tic.vp_no (p := p) hz
                have HKI2 : Hid (k - Tic.vp p y = Tic.pki u d i) := Lib.hid (by have := HKI.out; rw [e1] at this; omega)
                have HZ : Hid (z = La) := Lib.hid (by rw [← HL1.out, e2])
                clear hz e1 e2 HKI HL1
                go_wp2
                go_loop [1, 9] (fun t1 t9 => ∃ (z : Nat) (k : Int), Hid (Tic.Num z) ∧ z ≤ 1000000 ∧ t1 = .int .i64 z ∧ t9 = .int .i64 k ∧ -119 + Tic.vp p z ≤ k ∧ k ≤ 19 ∧ Tic.vp p z ≤ 19 ∧ Hid (k - Tic.vp p z = Tic.pki u d i) ∧ Hid (Tic.lf p z = Lb)) (fun t1 _ => (intOf t1).toNat)
                case atStart => exact ⟨y, k, A2, b1, rfl, rfl, by omega, by omega, V2, HKI2, HL2⟩
                case round =>
                  clear A2 b1 V2 HKI2 HL2 k1 k2
                  obtain ⟨zz, k, A2, b1, rfl, rfl, k1, k2, V2, HKI, HL2⟩ := hrel
                  by_cases hz2 : zz % p = 0
                  · have q4 := rem_yes hz2
                    have c2 := quot_cast zz p
                    obtain ⟨e1, e2⟩ := Tic.vp_yes p1 A2.out hz2
                    have HKI2 : Hid (k - 1 - Tic.vp p (zz / p) = Tic.pki u d i) := Lib.hid (by have := HKI.out; rw [e1] at this; omega)
                    have HL22 : Hid (Tic.lf p (zz / p) = Lb) := Lib.hid (by rw [← e2]; exact HL2.out)
                    have B2 := Lib.hid (A2.out.quot p1 hz2)
                    have lt2 : zz / p < zz := Nat.div_lt_self A2.out.1 (by omega)
                    have k3 : -119 + (Tic.vp p (zz / p) : Int) ≤ k - 1 := by omega
                    have v3 : Tic.vp p (zz / p) ≤ 19 := by omega
                    clear hz2 e1 e2 HKI HL2 k1 V2
                    generalize zz / p = z' at *
                    go_wp2
                    go_round
                    case rel => exact ⟨z', k - 1, B2, by omega, rfl, rfl, k3, by omega, v3, HKI2, HL22⟩
                    case measure => simp [intOf]; omega
                  · have q4 := rem_no hz2
                    obtain ⟨e1, e2⟩ := Tic.vp_no (p := p) hz2
                    have HKI2 : Hid (k = Tic.pki u d i) := Lib.hid (by have := HKI.out; rw [e1] at this; omega)
                    have HZ2 : Hid (zz = Lb) := Lib.hid (by rw [← HL2.out, e2])
                    clear hz2 e1 e2 HKI HL2
                    have hlen := Tic.pwTo_len u d i
                    have hgsz := HR.out
                    go_wp2_with (at_builtin; refine wpList_append_row rfl _ _ rfl w.heap.size _ (Tic.pwTo u d i) rfl (HR.out.alloc _) wr.heap.size 1 k rfl (by go_simp) (by omega) (by simp; omega) ?_)
                    intro v' w4 hrow hb4 hg hblk
                    have HR4 : Hid (Row w4 w.heap.size v' (Tic.pwTo u d (i + 1))) := Lib.hid (by rw [HK.out, ← HKI2.out]; exact hrow)
                    have HO4 : Hid (v'.ownBlock ≠ some (w.heap.size + 1)) := Lib.hid (by
                      rcases hblk with q | q
                      · rw [q]; exact HO.out
                      · rw [q]; simp; omega)
                    have HX4 : Hid (Bases w4 (w.heap.size + 1)) := Lib.hid (fun j hj =>
                      (World.cell?_of_block (a := ⟨w.heap.size + 1, j, none⟩) (hg.block (w.heap.size + 1) (by simp; omega) (fun e => HO.out e.symm))).trans (Lib.cell?_alloc_some _ (HX.out j hj)))
                    have HB4 : Hid (Below w.heap.size w w4) := Lib.hid ((HB.out.alloc HB.out.size _).trans hb4)
                    have hs4 : w.heap.size + 1 + 1 ≤ w4.heap.size := by have := hb4.size; simp at this; omega
                    clear hrow hb4 hg hblk hgsz
                    go_wp2
                    go_roundw
                    case rel => exact ⟨i + 1, by omega, by go_num, by rw [HU.out, ← HZ.out], by rw [HD.out, ← HZ2.out], HR4, HO4, HX4, HB4, hs4⟩
                    case measure => simp [intOf]; omega
    · obtain rfl : i = 3 := by omega
      have HU3 := Lib.hid (Tic.lfi_three u)
      have HD3 := Lib.hid (Tic.lfi_three d)
      rw [Tic.pwTo_three] at HR
      rw [HU3.out, HD3.out]
      generalize Tic.lft u = x at *
      generalize Tic.lft d = y at *
      generalize Tic.pwa u d = pa at *
      generalize Tic.pwb u d = pb at *
      generalize Tic.pwc u d = pc at *
      rcases Nat.lt_trichotomy x y with hq | hq | hq
      · have HI := Lib.hid (HON.out (fun hh => by omega))
        clear HX
        go_wp2
        go_ret2
        rw [HI.out]
        exact ⟨_, rfl, Row.nil _ _, HB.out⟩
      · subst hq
        by_cases ht : Tic.Pws pa pb pc
        · have HI := Lib.hid (HOY.out ⟨rfl, ht⟩)
          have HT := Lib.hid ht
          clear ht
          go_wp2_with fail
          refine (sValidP_yes _ _ _ _ _ _ HR.out HT.out).mono ?_; rintro e w' ⟨rfl, rfl⟩
          go_wp2
          go_ret2
          rw [HI.out]
          exact ⟨_, rfl, HR.out, HB.out⟩
        · have HI := Lib.hid (HON.out (fun hh => ht hh.2))
          have HT : Hid (¬ PwsL [pa, pb, pc]) := Lib.hid (fun ⟨a, b, c, e, hx⟩ => by simp only [List.cons.injEq, and_true] at e; obtain ⟨rfl, rfl, rfl⟩ := e; exact ht hx)
          clear ht
          go_wp2_with fail
          refine (sValidP_no _ _ _ _ HR.out HT.out).mono ?_; rintro e w' ⟨rfl, rfl⟩
          go_wp2
          go_ret2
          rw [HI.out]
          exact ⟨_, rfl, Row.nil _ _, HB.out⟩
      · have HI := Lib.hid (HON.out (fun hh => by omega))
        go_wp2
        go_ret2
        rw [HI.out]
        exact ⟨_, rfl, Row.nil _ _, HB.out⟩
theorem sPowers_all (u d : Int) (w : World) :
    Calls Tryd.prog 18 #[.int .i64 u, .int .i64 d] w (GivesInto (tolds u d) w) := by
  by_cases h : 1 ≤ u ∧ u ≤ 1000000 ∧ 1 ≤ d ∧ d ≤ 1000000
  · obtain ⟨U, rfl⟩ := Int.eq_ofNat_of_zero_le (show 0 ≤ u by omega)
    obtain ⟨D, rfl⟩ := Int.eq_ofNat_of_zero_le (show 0 ≤ d by omega)
    exact sPowers_num U D w ⟨by omega, by omega⟩ ⟨by omega, by omega⟩
  · rw [tolds_no h]
    exact sPowers_bad u d w h
end Go.Proofs.YtlbmjpkkomdhhaaDoor
