/-
  Contracts of ratios octaves higher and within an octave, of the program.
-/
import Derived.Test.YtpcbplademohnaaDoorOver
namespace Go.Proofs.YtpcbplademohnaaDoor
open Go.RowKit
set_option linter.unusedVariables false
set_option maxRecDepth 20000

set_option maxHeartbeats 800000 in
theorem octUp_any (a b c k : Int) (w : World) (hl : Primes w) (ha : -1000 ≤ a ∧ a ≤ 1000) (hk : -1000 ≤ k ∧ k ≤ 1000) (h : Fit (a + k) b c) :
    Calls Tryd.prog 47 #[pwV a b c, .int .i64 k] w fun e w' => e = .returned (rtV (a + k) b c (Tic.rup (a + k) b c) (Tic.rdn (a + k) b c)) ∧ Below w.heap.size w w' := by
  have HC := Lib.hid (fun w hw => ratio_any (a + k) b c w hw h)
  obtain ⟨a1, a2⟩ := ha
  obtain ⟨k1, k2⟩ := hk
  unfold rtV pwV at HC
  unfold rtV pwV
  generalize Tic.rup (a + k) b c = x at HC ⊢
  generalize Tic.rdn (a + k) b c = y at HC ⊢
  have hB1 := (Below.refl w.heap.size w).alloc (Nat.le_refl _) (.cells #[.int .i64 (a + k), .int .i64 b, .int .i64 c] 41)
  have hB2 := (Below.refl _ (w.alloc (.cells #[.int .i64 (a + k), .int .i64 b, .int .i64 c] 41))).alloc (Nat.le_refl _) (.cells #[.int .i64 0, .int .i64 0, .int .i64 0, .int .i64 0, .int .i64 0] 43)
  have hR := Rt.new (w.alloc (.cells #[.int .i64 (a + k), .int .i64 b, .int .i64 c] 41)) 0 0 0 0 0 43
  have HB0 := Lib.hid (hB1.trans (hB2.mono (by simp)))
  have hPr := Lib.hid ((hl.kept hB1).kept hB2)
  have hs : ((w.alloc (.cells #[.int .i64 (a + k), .int .i64 b, .int .i64 c] 41)).alloc (.cells #[.int .i64 0, .int .i64 0, .int .i64 0, .int .i64 0, .int .i64 0] 43)).heap.size = w.heap.size + 1 + 1 := by simp
  simp only [World.size_alloc] at hR
  have R0 := Lib.hid hR
  clear hB1 hB2 hR hl
  go_enter Tryd.func47, Tryd.ntmps47
  go_wp2_with fail
  generalize ((w.alloc (.cells #[.int .i64 (a + k), .int .i64 b, .int .i64 c] 41)).alloc (.cells #[.int .i64 0, .int .i64 0, .int .i64 0, .int .i64 0, .int .i64 0] 43)) = W at *
  refine (HC.out _ hPr.out).mono ?_; rintro e w2 ⟨rfl, hb⟩
  have HB := Lib.hid (HB0.out.trans (hb.mono (by omega)))
  have HR := Lib.hid (R0.out.kept hb (by omega))
  clear hb R0 HB0
  obtain ⟨r0, r1, r2, r3, r4, f0, f1, f2, f3, f4⟩ := HR.out
  go_wp2
  obtain ⟨y0, y1, y2, y3, y4, _⟩ := five_back (a' := a + k) (b' := b) (c' := c) (x' := (x : Int)) (y' := (y : Int)) HR.out
  refine bodyPost_ret (v := .agg #[.int .i64 (a + k), .int .i64 b, .int .i64 c, .int .i64 x, .int .i64 y]) (by simp [results, Tryd.results47, go_sem, y0, y1, y2, y3, y4]) rfl ⟨rfl, ?_⟩
  exact ((((HB.out.setCell (by simp) _).setCell (by simp) _).setCell (by simp) _).setCell (by simp) _).setCell (by simp) _
/-- the ratio of powers k, b, c as the program holds it -/
def rtO (k b c : Int) : Value := rtV k b c (Tic.rup k b c) (Tic.rdn k b c)
/-- on the way from a to the octave -/
theorem way_fit {b c k : Int} (h : Tic.P35 b c) (h1 : -100 ≤ k) (h2 : k ≤ 100) (h3 : k ≤ 24 ∨ k ≤ Tic.oct b c) (h4 : -24 ≤ k ∨ Tic.oct b c ≤ k) : Fit k b c :=
  ⟨by omega, by omega, by have := h.1; omega, by have := h.2.1; omega, by have := h.2.2.1; omega, by have := h.2.2.2; omega, Tic.way_lt h h3, Tic.yaw_lt h h4⟩
theorem Primes.far {w : World} (h : Primes w) {g j : Nat} (hg : 0 < g) (u : Value) : Primes (w.setCell ⟨g, j, none⟩ u) :=
  ⟨(set_else (by omega)).trans h.1, (set_else (by omega)).trans h.2.1, (set_else (by omega)).trans h.2.2⟩
/-- five cells written -/
def five (w : World) (g : Nat) (a b c x y : Int) : World := ((((w.setCell ⟨g, 0, none⟩ (.int .i64 a)).setCell ⟨g, 1, none⟩ (.int .i64 b)).setCell ⟨g, 2, none⟩ (.int .i64 c)).setCell ⟨g, 3, none⟩ (.int .i64 x)).setCell ⟨g, 4, none⟩ (.int .i64 y)
theorem five_far {w : World} {g h : Nat} {a b c x y : Int} (hw : Rt w h a b c x y) (hne : h ≠ g) (a' b' c' x' y' : Int) : Rt (five w g a' b' c' x' y') h a b c x y :=
  ((((hw.far hne _).far hne _).far hne _).far hne _).far hne _
theorem five_primes {w : World} (h : Primes w) {g : Nat} (hg : 0 < g) (a' b' c' x' y' : Int) : Primes (five w g a' b' c' x' y') :=
  ((((h.far hg _).far hg _).far hg _).far hg _).far hg _
theorem five_below {B : Nat} {v w : World} (h : Below B v w) {g : Nat} (hg : B ≤ g) (a' b' c' x' y' : Int) : Below B v (five w g a' b' c' x' y') :=
  ((((h.setCell (p := ⟨g, 0, none⟩) hg _).setCell (p := ⟨g, 1, none⟩) hg _).setCell (p := ⟨g, 2, none⟩) hg _).setCell (p := ⟨g, 3, none⟩) hg _).setCell (p := ⟨g, 4, none⟩) hg _
/-- the power of 2 of the ratio in a block -/
def twoAt (w : World) (g : Nat) : Int := intOf ((w.cell? ⟨g, 0, none⟩).getD undef)
theorem twoAt_eq {w : World} {g : Nat} {a b c x y : Int} (h : Rt w g a b c x y) : twoAt w g = a := by unfold twoAt; rw [h.1]; rfl
set_option maxHeartbeats 1000000 in
theorem within_any (a b c : Int) (w : World) (hl : Primes w) (ha : -24 ≤ a ∧ a ≤ 24) (h : Tic.P35 b c) :
    Calls Tryd.prog 36 #[pwV a b c] w fun e w' => e = .returned (rtO (Tic.oct b c) b c) ∧ Below w.heap.size w w' := by
  obtain ⟨_, o1, o2⟩ := Tic.oct_spec h
  obtain ⟨a1, a2⟩ := ha
  have HW := Lib.hid (fun k h1 h2 h3 h4 => way_fit (k := k) h h1 h2 h3 h4)
  have HLT := Lib.hid (fun k => Tic.oct_lt h k)
  have HGE := Lib.hid (fun k => Tic.oct_ge h k)
  clear h
  generalize Tic.oct b c = o at *
  have HC := Lib.hid (fun w hw => ratio_any a b c w hw (HW.out a (by omega) (by omega) (.inl (by omega)) (.inl (by omega))))
  unfold rtO
  unfold rtV pwV at HC
  unfold rtV pwV
  have hB1 := (Below.refl w.heap.size w).alloc (Nat.le_refl _) (.cells #[.int .i64 a, .int .i64 b, .int .i64 c] 41)
  have hB2 := (Below.refl _ (w.alloc (.cells #[.int .i64 a, .int .i64 b, .int .i64 c] 41))).alloc (Nat.le_refl _) (.cells #[.int .i64 0, .int .i64 0, .int .i64 0, .int .i64 0, .int .i64 0] 43)
  have hR := Rt.new (w.alloc (.cells #[.int .i64 a, .int .i64 b, .int .i64 c] 41)) 0 0 0 0 0 43
  have HB0 := Lib.hid (hB1.trans (hB2.mono (by simp)))
  have hPr := Lib.hid ((hl.kept hB1).kept hB2)
  have hs : ((w.alloc (.cells #[.int .i64 a, .int .i64 b, .int .i64 c] 41)).alloc (.cells #[.int .i64 0, .int .i64 0, .int .i64 0, .int .i64 0, .int .i64 0] 43)).heap.size = w.heap.size + 1 + 1 := by simp
  simp only [World.size_alloc] at hR
  have R0 := Lib.hid hR
  have hp0 := hl.pos
  clear hB1 hB2 hR hl
  go_enter Tryd.func36, Tryd.ntmps36
  go_wp2_with fail
  generalize ((w.alloc (.cells #[.int .i64 a, .int .i64 b, .int .i64 c] 41)).alloc (.cells #[.int .i64 0, .int .i64 0, .int .i64 0, .int .i64 0, .int .i64 0] 43)) = W at *
  refine (HC.out _ hPr.out).mono ?_; rintro e w2 ⟨rfl, hb⟩
  have hw2 : w.heap.size + 1 + 1 ≤ w2.heap.size := by have := hb.size; omega
  have HB := Lib.hid ((HB0.out.trans (hb.mono (by omega))).alloc (by omega) (.cells #[.int .i64 a, .int .i64 b, .int .i64 c, .int .i64 (Tic.rup a b c : Int), .int .i64 (Tic.rdn a b c : Int)] 43))
  have hk2 := (Below.refl w2.heap.size w2).alloc (Nat.le_refl _) (.cells #[.int .i64 a, .int .i64 b, .int .i64 c, .int .i64 (Tic.rup a b c : Int), .int .i64 (Tic.rdn a b c : Int)] 43)
  have HR := Lib.hid ((R0.out.kept hb (by omega)).kept hk2 (by omega))
  have HP := Lib.hid ((hPr.out.kept hb).kept hk2)
  have HX := Lib.hid (Rt.new w2 a b c (Tic.rup a b c) (Tic.rdn a b c) 43)
  have hz : (w2.alloc (.cells #[.int .i64 a, .int .i64 b, .int .i64 c, .int .i64 (Tic.rup a b c : Int), .int .i64 (Tic.rdn a b c : Int)] 43)).heap.size = w2.heap.size + 1 := by simp
  clear hb R0 HB0 hPr hk2 hs HC
  go_wp2
  generalize (w2.alloc (.cells #[.int .i64 a, .int .i64 b, .int .i64 c, .int .i64 (Tic.rup a b c : Int), .int .i64 (Tic.rdn a b c : Int)] 43)) = V at *
  obtain ⟨G, hG⟩ : ∃ G, G = w2.heap.size := ⟨_, rfl⟩
  rw [← hG] at HX hw2 hz ⊢
  clear hG
  go_loopw [6] (fun t6 wr => ∃ k : Int, a ≤ k ∧ (k = a ∨ k ≤ o) ∧ Hid (Rt wr G k b c (Tic.rup k b c) (Tic.rdn k b c)) ∧ Hid (Rt wr (w.heap.size + 1) 0 0 0 0 0) ∧ Hid (Primes wr) ∧ Hid (Below w.heap.size w wr)) (fun _ wr => (o - twoAt wr G).toNat)
  case atStart => exact ⟨a, Int.le_refl _, .inl rfl, HX, HR, HP, HB⟩
  case round =>
    clear HX HR HP HB hz
    obtain ⟨k, hk1, hk2, HX, HR, HP, HB⟩ := hrel
    have HF := Lib.hid (HW.out k (by omega) (by omega) (by omega) (.inl (by omega)))
    obtain ⟨fx, fy⟩ := HF.out.2.2.2.2.2.2
    unfold Fits at fx fy
    have hGl := HX.out.lt
    have HTW := Lib.hid (twoAt_eq HX.out)
    obtain ⟨d0, d1, d2, d3, d4, e0, e1, e2, e3, e4⟩ := HX.out
    by_cases hlt : k < o
    · have hxy := (HLT.out k).2 hlt
      have HC := Lib.hid (fun w hw => octUp_any k b c 1 w hw (by omega) (by omega) (HW.out (k + 1) (by omega) (by omega) (by omega) (.inl (by omega))))
      unfold rtV pwV at HC
      generalize Tic.rup k b c = x at *
      generalize Tic.rdn k b c = y at *
      go_wp2_with fail
      refine (HC.out _ HP.out).mono ?_; rintro e w3 ⟨rfl, hb⟩
      have hb' := hb.mono (show G + 1 ≤ wr.heap.size by omega)
      have HX2 := Lib.hid (HX.out.kept hb' (by omega))
      have HR2 := Lib.hid (HR.out.kept hb' (by omega))
      have HP2 := Lib.hid (HP.out.kept hb)
      have HB2 := Lib.hid (HB.out.trans (hb'.mono (by omega)))
      clear hb hb' HX HR HP HB d0 d1 d2 d3 d4 e0 e1 e2 e3 e4
      obtain ⟨d0, d1, d2, d3, d4, e0, e1, e2, e3, e4⟩ := HX2.out
      have HX3 : Hid (Rt (five w3 G (k + 1) b c (Tic.rup (k + 1) b c) (Tic.rdn (k + 1) b c)) G (k + 1) b c (Tic.rup (k + 1) b c) (Tic.rdn (k + 1) b c)) := Lib.hid (five_back HX2.out)
      have HR3 := Lib.hid (five_far HR2.out (show w.heap.size + 1 ≠ G by omega) (k + 1) b c (Tic.rup (k + 1) b c) (Tic.rdn (k + 1) b c))
      have HP3 := Lib.hid (five_primes HP2.out (show 0 < G by omega) (k + 1) b c (Tic.rup (k + 1) b c) (Tic.rdn (k + 1) b c))
      have HB3 := Lib.hid (five_below HB2.out (show w.heap.size ≤ G by omega) (k + 1) b c (Tic.rup (k + 1) b c) (Tic.rdn (k + 1) b c))
      have HT3 := Lib.hid (twoAt_eq HX3.out)
      clear HX2 HR2 HP2 HB2
      unfold five at HX3 HR3 HP3 HB3 HT3
      go_wp2
      go_roundw
      case rel => exact ⟨k + 1, by omega, .inr (by omega), HX3, HR3, HP3, HB3⟩
      case measure => rw [HTW.out, HT3.out]; omega
    · have hxy : ¬ Tic.rup k b c < Tic.rdn k b c := fun hh => hlt ((HLT.out k).1 hh)
      generalize Tic.rup k b c = x at d3 fx hxy
      generalize Tic.rdn k b c = y at d4 fy hxy
      clear HF
      go_wp2
      clear d0 d1 d2 d3 d4 e0 e1 e2 e3 e4 fx fy hxy HTW hGl
      obtain ⟨wo, rfl⟩ : ∃ wo : World, wo = wr := ⟨_, rfl⟩
      go_loopw [14] (fun t14 wr => ∃ k : Int, o ≤ k ∧ (k ≤ 24 ∨ k = o) ∧ Hid (Rt wr G k b c (Tic.rup k b c) (Tic.rdn k b c)) ∧ Hid (Rt wr (w.heap.size + 1) 0 0 0 0 0) ∧ Hid (Primes wr) ∧ Hid (Below w.heap.size w wr)) (fun _ wr => (twoAt wr G - o).toNat)
      case atStart => exact ⟨k, by omega, by omega, HX, HR, HP, HB⟩
      case round =>
        clear HX HR HP HB hk1 hk2 hlt
        obtain ⟨j, hk1, hk2, HX, HR, HP, HB⟩ := hrel
        have HF := Lib.hid (HW.out j (by omega) (by omega) (by omega) (.inr (by omega)))
        obtain ⟨fx, fy⟩ := HF.out.2.2.2.2.2.2
        unfold Fits at fx fy
        have hGl := HX.out.lt
        have HTW := Lib.hid (twoAt_eq HX.out)
        obtain ⟨d0, d1, d2, d3, d4, e0, e1, e2, e3, e4⟩ := HX.out
        by_cases hlt : o < j
        · have hxy := (HGE.out j).2 hlt
          have HC := Lib.hid (fun w hw => octUp_any j b c (-1) w hw (by omega) (by omega) (HW.out (j + (-1)) (by omega) (by omega) (by omega) (.inr (by omega))))
          rw [show j + (-1) = j - 1 by omega] at HC
          unfold rtV pwV at HC
          generalize Tic.rup j b c = x at *
          generalize Tic.rdn j b c = y at *
          go_wp2_with fail
          refine (HC.out _ HP.out).mono ?_; rintro e w3 ⟨rfl, hb⟩
          have hb' := hb.mono (show G + 1 ≤ wr.heap.size by omega)
          have HX2 := Lib.hid (HX.out.kept hb' (by omega))
          have HR2 := Lib.hid (HR.out.kept hb' (by omega))
          have HP2 := Lib.hid (HP.out.kept hb)
          have HB2 := Lib.hid (HB.out.trans (hb'.mono (by omega)))
          clear hb hb' HX HR HP HB d0 d1 d2 d3 d4 e0 e1 e2 e3 e4
          obtain ⟨d0, d1, d2, d3, d4, e0, e1, e2, e3, e4⟩ := HX2.out
          have HX3 : Hid (Rt (five w3 G (j - 1) b c (Tic.rup (j - 1) b c) (Tic.rdn (j - 1) b c)) G (j - 1) b c (Tic.rup (j - 1) b c) (Tic.rdn (j - 1) b c)) := Lib.hid (five_back HX2.out)
          have HR3 := Lib.hid (five_far HR2.out (show w.heap.size + 1 ≠ G by omega) (j - 1) b c (Tic.rup (j - 1) b c) (Tic.rdn (j - 1) b c))
          have HP3 := Lib.hid (five_primes HP2.out (show 0 < G by omega) (j - 1) b c (Tic.rup (j - 1) b c) (Tic.rdn (j - 1) b c))
          have HB3 := Lib.hid (five_below HB2.out (show w.heap.size ≤ G by omega) (j - 1) b c (Tic.rup (j - 1) b c) (Tic.rdn (j - 1) b c))
          have HT3 := Lib.hid (twoAt_eq HX3.out)
          clear HX2 HR2 HP2 HB2
          unfold five at HX3 HR3 HP3 HB3 HT3
          go_wp2
          go_roundw
          case rel => exact ⟨j - 1, by omega, by omega, HX3, HR3, HP3, HB3⟩
          case measure => rw [HTW.out, HT3.out]; omega
        · have hxy : ¬ 2 * Tic.rdn j b c ≤ Tic.rup j b c := fun hh => hlt ((HGE.out j).1 hh)
          obtain rfl : j = o := by omega
          generalize hx : Tic.rup j b c = x at d3 fx hxy
          generalize hy : Tic.rdn j b c = y at d4 fy hxy
          have HXE := Lib.hid hx
          have HYE := Lib.hid hy
          clear hx hy HX HF
          obtain ⟨r0, r1, r2, r3, r4, f0, f1, f2, f3, f4⟩ := HR.out
          go_wp2
          obtain ⟨y0, y1, y2, y3, y4, _⟩ := five_back (a' := j) (b' := b) (c' := c) (x' := (x : Int)) (y' := (y : Int)) HR.out
          refine bodyPost_ret (v := .agg #[.int .i64 j, .int .i64 b, .int .i64 c, .int .i64 x, .int .i64 y]) (by simp [results, Tryd.results36, go_sem, y0, y1, y2, y3, y4]) rfl ⟨by rw [HXE.out, HYE.out], ?_⟩
          exact ((((HB.out.setCell (by simp) _).setCell (by simp) _).setCell (by simp) _).setCell (by simp) _).setCell (by simp) _
end Go.Proofs.YtpcbplademohnaaDoor
