/-
  Contracts of the program's powers: as a list, divided, octaves higher.
-/
import Derived.Test.YtpcbplademohnaaDoorPowIn
import Derived.Test.YtpcbplademohnaaDoorShelves
namespace Go.Proofs.YtpcbplademohnaaDoor
open Go.RowKit
set_option linter.unusedVariables false
set_option maxRecDepth 20000

set_option maxHeartbeats 400000 in
theorem plist_any (a b c : Int) (w : World) :
    Calls Tryd.prog 26 #[pwV a b c] w (Gives [a, b, c] w) := by
  unfold pwV
  obtain ⟨p0, p1, p2, _⟩ := Pw3.new w a b c 41
  have hB := (Below.refl w.heap.size w).alloc (Nat.le_refl _) (.cells #[.int .i64 a, .int .i64 b, .int .i64 c] 41)
  have hs : (w.alloc (.cells #[.int .i64 a, .int .i64 b, .int .i64 c] 41)).heap.size = w.heap.size + 1 := by simp
  go_enter Tryd.func26, Tryd.ntmps26
  go_wp2_with fail
  generalize w.alloc (.cells #[.int .i64 a, .int .i64 b, .int .i64 c] 41) = W at *
  refine (Tryd.slices_Clone_int w.heap.size 0 3 3 [a, b, c] _ (by simp) (by omega) (fun j hj => by
    match j, hj with
    | 0, _ => exact p0
    | 1, _ => exact p1
    | 2, _ => exact p2)).mono ?_
  rintro e w2 ⟨v', rfl, hown, hnil, hb2⟩
  have HG : Hid (Gives [a, b, c] w (.returned v') w2) := by
    refine ⟨v', rfl, ⟨?_, by simp⟩, hB.trans (hb2.mono (by omega))⟩
    have h3 := hown
    refine ⟨h3.1, ?_⟩
    rcases h3.2 with h4 | ⟨g, cap, cur, e, hg, r⟩
    · exact .inl h4
    · exact .inr ⟨g, cap, cur, e, by omega, r⟩
  clear hb2 hown p0 p1 p2
  go_wp2
  go_ret
  exact HG.out
/-- the block g holds three numbers: the one at i written -/
theorem Pw3.put0 {w : World} {g : Nat} {a b c : Int} (h : Pw3 w g a b c) (z : Int) : Pw3 (w.setCell ⟨g, 0, none⟩ (.int .i64 z)) g z b c := by
  obtain ⟨h1, h2, h3, f1, f2, f3⟩ := h
  refine ⟨World.cell?_setCell_same _ _ _ h1, (set_else (by omega)).trans h2, (set_else (by omega)).trans h3, ?_, ?_, ?_⟩ <;> (rw [World.frozen?_setCell]; assumption)
theorem Pw3.put1 {w : World} {g : Nat} {a b c : Int} (h : Pw3 w g a b c) (z : Int) : Pw3 (w.setCell ⟨g, 1, none⟩ (.int .i64 z)) g a z c := by
  obtain ⟨h1, h2, h3, f1, f2, f3⟩ := h
  refine ⟨(set_else (by omega)).trans h1, World.cell?_setCell_same _ _ _ h2, (set_else (by omega)).trans h3, ?_, ?_, ?_⟩ <;> (rw [World.frozen?_setCell]; assumption)
theorem Pw3.put2 {w : World} {g : Nat} {a b c : Int} (h : Pw3 w g a b c) (z : Int) : Pw3 (w.setCell ⟨g, 2, none⟩ (.int .i64 z)) g a b z := by
  obtain ⟨h1, h2, h3, f1, f2, f3⟩ := h
  refine ⟨(set_else (by omega)).trans h1, (set_else (by omega)).trans h2, World.cell?_setCell_same _ _ _ h3, ?_, ?_, ?_⟩ <;> (rw [World.frozen?_setCell]; assumption)
/-- small numbers -/
def Small3 (a b c : Int) : Prop := -1000 ≤ a ∧ a ≤ 1000 ∧ -1000 ≤ b ∧ b ≤ 1000 ∧ -1000 ≤ c ∧ c ≤ 1000
set_option maxHeartbeats 800000 in
theorem over_any (a b c x y z : Int) (w : World) (h1 : Small3 a b c) (h2 : Small3 x y z) :
    Calls Tryd.prog 44 #[pwV a b c, pwV x y z] w fun e w' => e = .returned (pwV (a - x) (b - y) (c - z)) ∧ Below w.heap.size w w' := by
  unfold pwV
  obtain ⟨a1, a2, b1, b2, c1, c2⟩ := h1
  obtain ⟨x1, x2, y1, y2, z1, z2⟩ := h2
  obtain ⟨W, hW⟩ : ∃ W, W = ((w.alloc (.cells #[.int .i64 a, .int .i64 b, .int .i64 c] 41)).alloc (.cells #[.int .i64 x, .int .i64 y, .int .i64 z] 41)).alloc (.cells #[.int .i64 0, .int .i64 0, .int .i64 0] 41) := ⟨_, rfl⟩
  have hB1 := (Below.refl w.heap.size w).alloc (Nat.le_refl _) (.cells #[.int .i64 a, .int .i64 b, .int .i64 c] 41)
  have hB2 := (Below.refl _ (w.alloc (.cells #[.int .i64 a, .int .i64 b, .int .i64 c] 41))).alloc (Nat.le_refl _) (.cells #[.int .i64 x, .int .i64 y, .int .i64 z] 41)
  have hB3 := (Below.refl _ ((w.alloc (.cells #[.int .i64 a, .int .i64 b, .int .i64 c] 41)).alloc (.cells #[.int .i64 x, .int .i64 y, .int .i64 z] 41))).alloc (Nat.le_refl _) (.cells #[.int .i64 0, .int .i64 0, .int .i64 0] 41)
  have A0 := Lib.hid (((Pw3.new w a b c 41).kept hB2 (by simp)).kept hB3 (by simp; omega))
  have hX := ((Pw3.new (w.alloc (.cells #[.int .i64 a, .int .i64 b, .int .i64 c] 41)) x y z 41).kept hB3 (by simp))
  have hR := Pw3.new ((w.alloc (.cells #[.int .i64 a, .int .i64 b, .int .i64 c] 41)).alloc (.cells #[.int .i64 x, .int .i64 y, .int .i64 z] 41)) 0 0 0 41
  have HB0 := Lib.hid (hB1.trans ((hB2.mono (by simp)).trans (hB3.mono (by simp; omega))))
  rw [← hW] at A0 hX hR HB0
  simp only [World.size_alloc] at hX hR
  have X0 := Lib.hid hX
  have R0 := Lib.hid hR
  clear hB1 hB2 hB3 hX hR
  go_enter Tryd.func44, Tryd.ntmps44
  go_wp2
  rw [← hW]
  clear hW
  refine wp_loop_rounds 4 ?_
  rw [rounds_succ]
  obtain ⟨p0, p1, p2, g0, g1, g2⟩ := A0.out
  obtain ⟨q0, q1, q2, _⟩ := X0.out
  go_wp2
  go_region
  have A1 := Lib.hid (A0.out.put0 (a - x)).drew
  have X1 := Lib.hid (X0.out.far (k := w.heap.size) (j := 0) (by omega) (.int .i64 (a - x))).drew
  have R1 := Lib.hid (R0.out.far (k := w.heap.size) (j := 0) (by omega) (.int .i64 (a - x))).drew
  have HB1 := Lib.hid (HB0.out.setCell (p := ⟨w.heap.size, 0, none⟩) (by simp) (.int .i64 (a - x))).drew
  clear A0 X0 R0 HB0 p0 p1 p2 g0 g1 g2 q0 q1 q2
  generalize (W.setCell ⟨w.heap.size, 0, none⟩ (.int .i64 (a - x))).drew = W1 at *
  go_wp2
  rw [rounds_succ]
  obtain ⟨p0, p1, p2, g0, g1, g2⟩ := A1.out
  obtain ⟨q0, q1, q2, _⟩ := X1.out
  go_wp2
  go_region
  have A2 := Lib.hid (A1.out.put1 (b - y)).drew
  have X2 := Lib.hid (X1.out.far (k := w.heap.size) (j := 1) (by omega) (.int .i64 (b - y))).drew
  have R2 := Lib.hid (R1.out.far (k := w.heap.size) (j := 1) (by omega) (.int .i64 (b - y))).drew
  have HB2 := Lib.hid (HB1.out.setCell (p := ⟨w.heap.size, 1, none⟩) (by simp) (.int .i64 (b - y))).drew
  clear A1 X1 R1 HB1 p0 p1 p2 g0 g1 g2 q0 q1 q2
  generalize (W1.setCell ⟨w.heap.size, 1, none⟩ (.int .i64 (b - y))).drew = W2 at *
  go_wp2
  rw [rounds_succ]
  obtain ⟨p0, p1, p2, g0, g1, g2⟩ := A2.out
  obtain ⟨q0, q1, q2, _⟩ := X2.out
  go_wp2
  go_region
  have A3 := Lib.hid (A2.out.put2 (c - z)).drew
  have X3 := Lib.hid (X2.out.far (k := w.heap.size) (j := 2) (by omega) (.int .i64 (c - z))).drew
  have R3 := Lib.hid (R2.out.far (k := w.heap.size) (j := 2) (by omega) (.int .i64 (c - z))).drew
  have HB3 := Lib.hid (HB2.out.setCell (p := ⟨w.heap.size, 2, none⟩) (by simp) (.int .i64 (c - z))).drew
  clear A2 X2 R2 HB2 p0 p1 p2 g0 g1 g2 q0 q1 q2
  generalize (W2.setCell ⟨w.heap.size, 2, none⟩ (.int .i64 (c - z))).drew = W3 at *
  go_wp2
  rw [rounds_succ]
  obtain ⟨p0, p1, p2, _⟩ := A3.out
  obtain ⟨r0, r1, r2, f0, f1, f2⟩ := R3.out
  go_wp2
  obtain ⟨y0, y1, y2, _⟩ := three_back (a' := a - x) (b' := b - y) (c' := c - z) R3.out
  refine bodyPost_ret (v := .agg #[.int .i64 (a - x), .int .i64 (b - y), .int .i64 (c - z)]) (by simp [results, Tryd.results44, go_sem, y0, y1, y2]) rfl ⟨rfl, ?_⟩
  exact ((HB3.out.setCell (by simp; omega) _).setCell (by simp; omega) _).setCell (by simp; omega) _
end Go.Proofs.YtpcbplademohnaaDoor
