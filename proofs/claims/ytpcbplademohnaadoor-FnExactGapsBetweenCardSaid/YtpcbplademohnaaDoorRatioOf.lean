/-
  Contracts of the program's ratios of powers.
-/
import Derived.Test.YtpcbplademohnaaDoorPowers
namespace Go.Proofs.YtpcbplademohnaaDoor
open Go.RowKit
set_option linter.unusedVariables false
set_option maxRecDepth 20000

/-- a ratio as the program holds it -/
def rtV (a b c : Int) (x y : Nat) : Value := .agg #[.int .i64 a, .int .i64 b, .int .i64 c, .int .i64 x, .int .i64 y]
theorem prime_at (w : World) : (∀ W, (Instr.index 40 (.agg #[.int .i64 2, .int .i64 3, .int .i64 5]) (.int .i64 0)).run Tryd.prog W = .ok (.int .i64 2) W) ∧ (∀ W, (Instr.index 40 (.agg #[.int .i64 2, .int .i64 3, .int .i64 5]) (.int .i64 1)).run Tryd.prog W = .ok (.int .i64 3) W) ∧
    (∀ W, (Instr.index 40 (.agg #[.int .i64 2, .int .i64 3, .int .i64 5]) (.int .i64 2)).run Tryd.prog W = .ok (.int .i64 5) W) := ⟨fun _ => by kernel_rfl, fun _ => by kernel_rfl, fun _ => by kernel_rfl⟩
/-- the block g holds a ratio -/
def Rt (w : World) (g : Nat) (a b c x y : Int) : Prop := w.cell? ⟨g, 0, none⟩ = some (.int .i64 a) ∧ w.cell? ⟨g, 1, none⟩ = some (.int .i64 b) ∧ w.cell? ⟨g, 2, none⟩ = some (.int .i64 c) ∧ w.cell? ⟨g, 3, none⟩ = some (.int .i64 x) ∧ w.cell? ⟨g, 4, none⟩ = some (.int .i64 y) ∧
  w.frozen? ⟨g, 0, none⟩ = false ∧ w.frozen? ⟨g, 1, none⟩ = false ∧ w.frozen? ⟨g, 2, none⟩ = false ∧ w.frozen? ⟨g, 3, none⟩ = false ∧ w.frozen? ⟨g, 4, none⟩ = false
theorem Rt.new (w : World) (a b c x y : Int) (t : TypeId) : Rt (w.alloc (.cells #[.int .i64 a, .int .i64 b, .int .i64 c, .int .i64 x, .int .i64 y] t)) w.heap.size a b c x y := by
  refine ⟨?_, ?_, ?_, ?_, ?_, ?_, ?_, ?_, ?_, ?_⟩ <;> go_simp
theorem Rt.lt {w : World} {g : Nat} {a b c x y : Int} (h : Rt w g a b c x y) : g < w.heap.size := block_lt_of_cell h.1
theorem Rt.kept {w w' : World} {g B : Nat} {a b c x y : Int} (h : Rt w g a b c x y) (hb : Below B w w') (hg : g < B) : Rt w' g a b c x y := by
  obtain ⟨h1, h2, h3, h4, h5, f1, f2, f3, f4, f5⟩ := h
  exact ⟨(hb.cell (p := ⟨g, 0, none⟩) hg).trans h1, (hb.cell (p := ⟨g, 1, none⟩) hg).trans h2, (hb.cell (p := ⟨g, 2, none⟩) hg).trans h3, (hb.cell (p := ⟨g, 3, none⟩) hg).trans h4, (hb.cell (p := ⟨g, 4, none⟩) hg).trans h5,
    (hb.frozen (p := ⟨g, 0, none⟩) hg).trans f1, (hb.frozen (p := ⟨g, 1, none⟩) hg).trans f2, (hb.frozen (p := ⟨g, 2, none⟩) hg).trans f3, (hb.frozen (p := ⟨g, 3, none⟩) hg).trans f4, (hb.frozen (p := ⟨g, 4, none⟩) hg).trans f5⟩
theorem Pw3.kept {w w' : World} {g B : Nat} {a b c : Int} (h : Pw3 w g a b c) (hb : Below B w w') (hg : g < B) : Pw3 w' g a b c := by
  obtain ⟨h1, h2, h3, f1, f2, f3⟩ := h
  exact ⟨(hb.cell (p := ⟨g, 0, none⟩) hg).trans h1, (hb.cell (p := ⟨g, 1, none⟩) hg).trans h2, (hb.cell (p := ⟨g, 2, none⟩) hg).trans h3,
    (hb.frozen (p := ⟨g, 0, none⟩) hg).trans f1, (hb.frozen (p := ⟨g, 1, none⟩) hg).trans f2, (hb.frozen (p := ⟨g, 2, none⟩) hg).trans f3⟩
theorem set_else {w : World} {g h i j : Nat} {u : Value} (hne : ¬ (g = h ∧ i = j)) : (w.setCell ⟨h, j, none⟩ u).cell? ⟨g, i, none⟩ = w.cell? ⟨g, i, none⟩ :=
  World.cell?_setCell_other _ _ _ _ (by intro e; simp only [Addr.mk.injEq] at e; first | exact hne ⟨e.1, e.2.1⟩ | exact hne ⟨e.1.symm, e.2.1.symm⟩)
theorem Rt.up {w : World} {g : Nat} {a b c x y : Int} (h : Rt w g a b c x y) (z : Int) : Rt (w.setCell ⟨g, 3, none⟩ (.int .i64 z)) g a b c z y := by
  obtain ⟨h1, h2, h3, h4, h5, f1, f2, f3, f4, f5⟩ := h
  refine ⟨(set_else (by omega)).trans h1, (set_else (by omega)).trans h2, (set_else (by omega)).trans h3, World.cell?_setCell_same _ _ _ h4, (set_else (by omega)).trans h5, ?_, ?_, ?_, ?_, ?_⟩ <;> (rw [World.frozen?_setCell]; assumption)
theorem Rt.down {w : World} {g : Nat} {a b c x y : Int} (h : Rt w g a b c x y) (z : Int) : Rt (w.setCell ⟨g, 4, none⟩ (.int .i64 z)) g a b c x z := by
  obtain ⟨h1, h2, h3, h4, h5, f1, f2, f3, f4, f5⟩ := h
  refine ⟨(set_else (by omega)).trans h1, (set_else (by omega)).trans h2, (set_else (by omega)).trans h3, (set_else (by omega)).trans h4, World.cell?_setCell_same _ _ _ h5, ?_, ?_, ?_, ?_, ?_⟩ <;> (rw [World.frozen?_setCell]; assumption)
theorem Rt.far {w : World} {g : Nat} {a b c x y : Int} (h : Rt w g a b c x y) {k j : Nat} (hk : g ≠ k) (u : Value) : Rt (w.setCell ⟨k, j, none⟩ u) g a b c x y := by
  obtain ⟨h1, h2, h3, h4, h5, f1, f2, f3, f4, f5⟩ := h
  refine ⟨(set_else (by omega)).trans h1, (set_else (by omega)).trans h2, (set_else (by omega)).trans h3, (set_else (by omega)).trans h4, (set_else (by omega)).trans h5, ?_, ?_, ?_, ?_, ?_⟩ <;> (rw [World.frozen?_setCell]; assumption)
theorem Pw3.far {w : World} {g : Nat} {a b c : Int} (h : Pw3 w g a b c) {k j : Nat} (hk : g ≠ k) (u : Value) : Pw3 (w.setCell ⟨k, j, none⟩ u) g a b c := by
  obtain ⟨h1, h2, h3, f1, f2, f3⟩ := h
  refine ⟨(set_else (by omega)).trans h1, (set_else (by omega)).trans h2, (set_else (by omega)).trans h3, ?_, ?_, ?_⟩ <;> (rw [World.frozen?_setCell]; assumption)
/-- five cells written one by one read back -/
theorem five_back {w : World} {g : Nat} {a b c x y a' b' c' x' y' : Int} (h : Rt w g a b c x y) :
    Rt (((((w.setCell ⟨g, 0, none⟩ (.int .i64 a')).setCell ⟨g, 1, none⟩ (.int .i64 b')).setCell ⟨g, 2, none⟩ (.int .i64 c')).setCell ⟨g, 3, none⟩ (.int .i64 x')).setCell ⟨g, 4, none⟩ (.int .i64 y')) g a' b' c' x' y' := by
  obtain ⟨h1, h2, h3, h4, h5, f1, f2, f3, f4, f5⟩ := h
  refine ⟨?_, ?_, ?_, ?_, ?_, ?_, ?_, ?_, ?_, ?_⟩
  · rw [set_else (by omega), set_else (by omega), set_else (by omega), set_else (by omega)]; exact World.cell?_setCell_same _ _ _ h1
  · rw [set_else (by omega), set_else (by omega), set_else (by omega)]; exact World.cell?_setCell_same _ _ _ ((set_else (by omega)).trans h2)
  · rw [set_else (by omega), set_else (by omega)]; exact World.cell?_setCell_same _ _ _ ((set_else (by omega)).trans ((set_else (by omega)).trans h3))
  · rw [set_else (by omega)]; exact World.cell?_setCell_same _ _ _ ((set_else (by omega)).trans ((set_else (by omega)).trans ((set_else (by omega)).trans h4)))
  · exact World.cell?_setCell_same _ _ _ ((set_else (by omega)).trans ((set_else (by omega)).trans ((set_else (by omega)).trans ((set_else (by omega)).trans h5))))
  all_goals (simp only [World.frozen?_setCell]; assumption)
theorem Rt.drew {w : World} {g : Nat} {a b c x y : Int} (h : Rt w g a b c x y) : Rt w.drew g a b c x y := h
theorem Pw3.drew {w : World} {g : Nat} {a b c : Int} (h : Pw3 w g a b c) : Pw3 w.drew g a b c := h
set_option maxHeartbeats 800000 in
theorem ratio_any (a b c : Int) (w : World) (hl : Primes w) (h : Fit a b c) :
    Calls Tryd.prog 31 #[pwV a b c] w fun e w' => e = .returned (rtV a b c (Tic.rup a b c) (Tic.rdn a b c)) ∧ Below w.heap.size w w' := by
  unfold rtV pwV
  obtain ⟨h1, h2, h3, h4, h5, h6, h7, h8⟩ := h
  obtain ⟨p1, p2, p3, p4⟩ := rup_parts h7
  obtain ⟨q1, q2, q3, q4⟩ := rup_parts (a := -a) (b := -b) (c := -c) h8
  have mx : ∀ x : Int, (if x < 0 then 0 else x).toNat = x.toNat := fun x => by split <;> omega
  have my : ∀ x : Int, x ≤ 1000 → (if x < 0 then 0 else x) ≤ 1000 := fun x h => by split <;> omega
  have T2 := Lib.hid (fun w => raised_any 2 (if a < 0 then 0 else a) w (by omega) (by omega) (my _ (by omega)) (by rw [mx]; exact p1))
  have T3 := Lib.hid (fun w => raised_any 3 (if b < 0 then 0 else b) w (by omega) (by omega) (my _ (by omega)) (by rw [mx]; exact p2))
  have T5 := Lib.hid (fun w => raised_any 5 (if c < 0 then 0 else c) w (by omega) (by omega) (my _ (by omega)) (by rw [mx]; exact p3))
  have U2 := Lib.hid (fun w => raised_any 2 (if (-a) < 0 then 0 else (-a)) w (by omega) (by omega) (my _ (by omega)) (by rw [mx]; exact q1))
  have U3 := Lib.hid (fun w => raised_any 3 (if (-b) < 0 then 0 else (-b)) w (by omega) (by omega) (my _ (by omega)) (by rw [mx]; exact q2))
  have U5 := Lib.hid (fun w => raised_any 5 (if (-c) < 0 then 0 else (-c)) w (by omega) (by omega) (my _ (by omega)) (by rw [mx]; exact q3))
  rw [mx] at T2 T3 T5 U2 U3 U5
  unfold Tic.rup Tic.rdn
  unfold Fits Tic.rup at h7
  unfold Fits Tic.rdn at h8
  unfold Fits at p1 p2 p3 p4 q1 q2 q3 q4
  have e1 : ((2 ^ a.toNat : Nat) : Int) * ((3 ^ b.toNat : Nat) : Int) = ((2 ^ a.toNat * 3 ^ b.toNat : Nat) : Int) := (Int.natCast_mul _ _).symm
  have e2 : ((2 ^ a.toNat * 3 ^ b.toNat : Nat) : Int) * ((5 ^ c.toNat : Nat) : Int) = ((2 ^ a.toNat * 3 ^ b.toNat * 5 ^ c.toNat : Nat) : Int) := (Int.natCast_mul _ _).symm
  have f1 : ((2 ^ (-a).toNat : Nat) : Int) * ((3 ^ (-b).toNat : Nat) : Int) = ((2 ^ (-a).toNat * 3 ^ (-b).toNat : Nat) : Int) := (Int.natCast_mul _ _).symm
  have f2 : ((2 ^ (-a).toNat * 3 ^ (-b).toNat : Nat) : Int) * ((5 ^ (-c).toNat : Nat) : Int) = ((2 ^ (-a).toNat * 3 ^ (-b).toNat * 5 ^ (-c).toNat : Nat) : Int) := (Int.natCast_mul _ _).symm
  generalize 2 ^ a.toNat * 3 ^ b.toNat * 5 ^ c.toNat = X3 at *
  generalize 2 ^ a.toNat * 3 ^ b.toNat = X2 at *
  generalize 2 ^ a.toNat = X1 at *
  generalize 3 ^ b.toNat = Xb at *
  generalize 5 ^ c.toNat = Xc at *
  generalize 2 ^ (-a).toNat * 3 ^ (-b).toNat * 5 ^ (-c).toNat = Y3 at *
  generalize 2 ^ (-a).toNat * 3 ^ (-b).toNat = Y2 at *
  generalize 2 ^ (-a).toNat = Y1 at *
  generalize 3 ^ (-b).toNat = Yb at *
  generalize 5 ^ (-c).toNat = Yc at *
  have E1 := Lib.hid e1
  have E2 := Lib.hid e2
  have F1 := Lib.hid f1
  have F2 := Lib.hid f2
  clear e1 e2 f1 f2 mx my
  obtain ⟨W, hW⟩ : ∃ W, W = ((w.alloc (.cells #[.int .i64 a, .int .i64 b, .int .i64 c] 41)).alloc (.cells #[.int .i64 0, .int .i64 0, .int .i64 0, .int .i64 0, .int .i64 0] 43)).alloc (.cells #[.int .i64 a, .int .i64 b, .int .i64 c, .int .i64 1, .int .i64 1] 43) := ⟨_, rfl⟩
  have hB1 := (Below.refl w.heap.size w).alloc (Nat.le_refl _) (.cells #[.int .i64 a, .int .i64 b, .int .i64 c] 41)
  have hB2 := (Below.refl _ (w.alloc (.cells #[.int .i64 a, .int .i64 b, .int .i64 c] 41))).alloc (Nat.le_refl _) (.cells #[.int .i64 0, .int .i64 0, .int .i64 0, .int .i64 0, .int .i64 0] 43)
  have hB3 := (Below.refl _ ((w.alloc (.cells #[.int .i64 a, .int .i64 b, .int .i64 c] 41)).alloc (.cells #[.int .i64 0, .int .i64 0, .int .i64 0, .int .i64 0, .int .i64 0] 43))).alloc (Nat.le_refl _) (.cells #[.int .i64 a, .int .i64 b, .int .i64 c, .int .i64 1, .int .i64 1] 43)
  have hR1 := Rt.new (w.alloc (.cells #[.int .i64 a, .int .i64 b, .int .i64 c] 41)) 0 0 0 0 0 43
  have hR2 := Rt.new ((w.alloc (.cells #[.int .i64 a, .int .i64 b, .int .i64 c] 41)).alloc (.cells #[.int .i64 0, .int .i64 0, .int .i64 0, .int .i64 0, .int .i64 0] 43)) a b c 1 1 43
  have S0 := Lib.hid (((Pw3.new w a b c 41).kept hB2 (by simp)).kept hB3 (by simp; omega))
  have R1 := Lib.hid (hR1.kept hB3 (by simp))
  have R2 := Lib.hid hR2
  have HB := Lib.hid (hB1.trans ((hB2.mono (by simp)).trans (hB3.mono (by simp; omega))))
  have hl0 := (((hl.kept hB1).kept hB2).kept hB3)
  rw [← hW] at S0 R1 R2 HB hl0
  simp only [World.size_alloc] at R1 R2
  obtain ⟨l0, l1, l2⟩ := hl0
  rw [hW] at l0 l1 l2
  clear hB1 hB2 hB3 hR1 hR2
  go_enter Tryd.func31, Tryd.ntmps31
  go_wp2
  rw [← hW]
  clear hW l0 l1 l2
  obtain ⟨x0, x1, x2⟩ := prime_at w
  refine wp_loop_rounds 4 ?_
  rw [rounds_succ]
  obtain ⟨c0, c1, c2, _⟩ := S0.out
  obtain ⟨_, _, _, d3, d4, _, _, _, g3, g4⟩ := R2.out
  go_wp2_with fail
  refine wp_region_still_tail 10 (by kernel_rfl) (by kernel_rfl) ?_
  simp only [List.take_succ_cons, List.take_zero, List.drop_succ_cons, List.drop_zero]
  iterate 7 still_step
  generalize (if a < 0 then 0 else a) = m0 at *
  still_call (still_of (T2.out _))
  still_step
  still_step
  refine wpStill_nil ?_
  change wpList _ _ _ _ _ W.drew
  go_wp2_with fail
  have S1 := Lib.hid (S0.out.far (k := w.heap.size + 1 + 1) (j := 3) (by omega) (.int .i64 (X1 : Int))).drew
  have A1 := Lib.hid (R1.out.far (k := w.heap.size + 1 + 1) (j := 3) (by omega) (.int .i64 (X1 : Int))).drew
  have B1 := Lib.hid (R2.out.up (X1 : Int)).drew
  have H1 := Lib.hid (HB.out.setCell (p := ⟨w.heap.size + 1 + 1, 3, none⟩) (by simp; omega) (.int .i64 (X1 : Int))).drew
  clear S0 R1 R2 HB c0 c1 c2 d3 d4 g3 g4
  generalize (W.setCell ⟨w.heap.size + 1 + 1, 3, none⟩ (.int .i64 (X1 : Int))).drew = W1 at *
  obtain ⟨c0, c1, c2, _⟩ := S1.out
  obtain ⟨_, _, _, d3, d4, _, _, _, g3, g4⟩ := B1.out
  refine wp_region_still_tail 11 (by kernel_rfl) (by kernel_rfl) ?_
  simp only [List.take_succ_cons, List.take_zero, List.drop_succ_cons, List.drop_zero]
  iterate 8 still_step
  have hw := IntWalk.i64_in (-a) (by omega)
  simp only [hw]
  clear hw
  generalize (if -a < 0 then 0 else -a) = m1 at *
  still_call (still_of (U2.out _))
  still_step
  still_step
  refine wpStill_nil ?_
  change wpList _ _ _ _ _ W1.drew
  go_wp2_with fail
  have S2 := Lib.hid (S1.out.far (k := w.heap.size + 1 + 1) (j := 4) (by omega) (.int .i64 (Y1 : Int))).drew
  have A2 := Lib.hid (A1.out.far (k := w.heap.size + 1 + 1) (j := 4) (by omega) (.int .i64 (Y1 : Int))).drew
  have B2 := Lib.hid (B1.out.down (Y1 : Int)).drew
  have H2 := Lib.hid (H1.out.setCell (p := ⟨w.heap.size + 1 + 1, 4, none⟩) (by simp; omega) (.int .i64 (Y1 : Int))).drew
  clear S1 A1 B1 H1 c0 c1 c2 d3 d4 g3 g4
  generalize (W1.setCell ⟨w.heap.size + 1 + 1, 4, none⟩ (.int .i64 (Y1 : Int))).drew = W2 at *
  go_wp2
  rw [rounds_succ]
  obtain ⟨c0, c1, c2, _⟩ := S2.out
  obtain ⟨_, _, _, d3, d4, _, _, _, g3, g4⟩ := B2.out
  go_wp2_with fail
  refine wp_region_still_tail 10 (by kernel_rfl) (by kernel_rfl) ?_
  simp only [List.take_succ_cons, List.take_zero, List.drop_succ_cons, List.drop_zero]
  iterate 7 still_step
  generalize (if b < 0 then 0 else b) = m2 at *
  still_call (still_of (T3.out _))
  still_step
  still_step
  refine wpStill_nil ?_
  change wpList _ _ _ _ _ W2.drew
  have hq := E1.out
  go_wp2_with fail
  clear hq
  have S3 := Lib.hid (S2.out.far (k := w.heap.size + 1 + 1) (j := 3) (by omega) (.int .i64 (X2 : Int))).drew
  have A3 := Lib.hid (A2.out.far (k := w.heap.size + 1 + 1) (j := 3) (by omega) (.int .i64 (X2 : Int))).drew
  have B3 := Lib.hid (B2.out.up (X2 : Int)).drew
  have H3 := Lib.hid (H2.out.setCell (p := ⟨w.heap.size + 1 + 1, 3, none⟩) (by simp; omega) (.int .i64 (X2 : Int))).drew
  clear S2 A2 B2 H2 c0 c1 c2 d3 d4 g3 g4
  generalize (W2.setCell ⟨w.heap.size + 1 + 1, 3, none⟩ (.int .i64 (X2 : Int))).drew = W3 at *
  obtain ⟨c0, c1, c2, _⟩ := S3.out
  obtain ⟨_, _, _, d3, d4, _, _, _, g3, g4⟩ := B3.out
  refine wp_region_still_tail 11 (by kernel_rfl) (by kernel_rfl) ?_
  simp only [List.take_succ_cons, List.take_zero, List.drop_succ_cons, List.drop_zero]
  iterate 8 still_step
  have hw := IntWalk.i64_in (-b) (by omega)
  simp only [hw]
  clear hw
  generalize (if -b < 0 then 0 else -b) = m3 at *
  still_call (still_of (U3.out _))
  still_step
  still_step
  refine wpStill_nil ?_
  change wpList _ _ _ _ _ W3.drew
  have hq := F1.out
  go_wp2_with fail
  clear hq
  have S4 := Lib.hid (S3.out.far (k := w.heap.size + 1 + 1) (j := 4) (by omega) (.int .i64 (Y2 : Int))).drew
  have A4 := Lib.hid (A3.out.far (k := w.heap.size + 1 + 1) (j := 4) (by omega) (.int .i64 (Y2 : Int))).drew
  have B4 := Lib.hid (B3.out.down (Y2 : Int)).drew
  have H4 := Lib.hid (H3.out.setCell (p := ⟨w.heap.size + 1 + 1, 4, none⟩) (by simp; omega) (.int .i64 (Y2 : Int))).drew
  clear S3 A3 B3 H3 c0 c1 c2 d3 d4 g3 g4
  generalize (W3.setCell ⟨w.heap.size + 1 + 1, 4, none⟩ (.int .i64 (Y2 : Int))).drew = W4 at *
  go_wp2
  rw [rounds_succ]
  obtain ⟨c0, c1, c2, _⟩ := S4.out
  obtain ⟨_, _, _, d3, d4, _, _, _, g3, g4⟩ := B4.out
  go_wp2_with fail
  refine wp_region_still_tail 10 (by kernel_rfl) (by kernel_rfl) ?_
  simp only [List.take_succ_cons, List.take_zero, List.drop_succ_cons, List.drop_zero]
  iterate 7 still_step
  generalize (if c < 0 then 0 else c) = m4 at *
  still_call (still_of (T5.out _))
  still_step
  still_step
  refine wpStill_nil ?_
  change wpList _ _ _ _ _ W4.drew
  have hq := E2.out
  go_wp2_with fail
  clear hq
  have S5 := Lib.hid (S4.out.far (k := w.heap.size + 1 + 1) (j := 3) (by omega) (.int .i64 (X3 : Int))).drew
  have A5 := Lib.hid (A4.out.far (k := w.heap.size + 1 + 1) (j := 3) (by omega) (.int .i64 (X3 : Int))).drew
  have B5 := Lib.hid (B4.out.up (X3 : Int)).drew
  have H5 := Lib.hid (H4.out.setCell (p := ⟨w.heap.size + 1 + 1, 3, none⟩) (by simp; omega) (.int .i64 (X3 : Int))).drew
  clear S4 A4 B4 H4 c0 c1 c2 d3 d4 g3 g4
  generalize (W4.setCell ⟨w.heap.size + 1 + 1, 3, none⟩ (.int .i64 (X3 : Int))).drew = W5 at *
  obtain ⟨c0, c1, c2, _⟩ := S5.out
  obtain ⟨_, _, _, d3, d4, _, _, _, g3, g4⟩ := B5.out
  refine wp_region_still_tail 11 (by kernel_rfl) (by kernel_rfl) ?_
  simp only [List.take_succ_cons, List.take_zero, List.drop_succ_cons, List.drop_zero]
  iterate 8 still_step
  have hw := IntWalk.i64_in (-c) (by omega)
  simp only [hw]
  clear hw
  generalize (if -c < 0 then 0 else -c) = m5 at *
  still_call (still_of (U5.out _))
  still_step
  still_step
  refine wpStill_nil ?_
  change wpList _ _ _ _ _ W5.drew
  have hq := F2.out
  go_wp2_with fail
  clear hq
  have S6 := Lib.hid (S5.out.far (k := w.heap.size + 1 + 1) (j := 4) (by omega) (.int .i64 (Y3 : Int))).drew
  have A6 := Lib.hid (A5.out.far (k := w.heap.size + 1 + 1) (j := 4) (by omega) (.int .i64 (Y3 : Int))).drew
  have B6 := Lib.hid (B5.out.down (Y3 : Int)).drew
  have H6 := Lib.hid (H5.out.setCell (p := ⟨w.heap.size + 1 + 1, 4, none⟩) (by simp; omega) (.int .i64 (Y3 : Int))).drew
  clear S5 A5 B5 H5 c0 c1 c2 d3 d4 g3 g4
  generalize (W5.setCell ⟨w.heap.size + 1 + 1, 4, none⟩ (.int .i64 (Y3 : Int))).drew = W6 at *
  go_wp2
  rw [rounds_succ]
  obtain ⟨d0, d1, d2, d3, d4, _⟩ := B6.out
  obtain ⟨r0, r1, r2, r3, r4, f0, f1, f2, f3, f4⟩ := A6.out
  go_wp2
  obtain ⟨y0, y1, y2, y3, y4, _⟩ := five_back (a' := a) (b' := b) (c' := c) (x' := (X3 : Int)) (y' := (Y3 : Int)) A6.out
  refine bodyPost_ret (v := .agg #[.int .i64 a, .int .i64 b, .int .i64 c, .int .i64 X3, .int .i64 Y3]) (by simp [results, Tryd.results31, go_sem, y0, y1, y2, y3, y4]) rfl ⟨rfl, ?_⟩
  exact ((((H6.out.setCell (by simp) _).setCell (by simp) _).setCell (by simp) _).setCell (by simp) _).setCell (by simp) _
end Go.Proofs.YtpcbplademohnaaDoor
