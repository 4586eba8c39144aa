/-
  The model's comparison of two tones.
-/
import Derived.Test.YtpcbplademohnaaDoorSFifths
import Derived.Deep.RegionHeld3
namespace Go.Proofs.YtpcbplademohnaaDoor
open Go.RowKit Go.Sort
set_option linter.unusedVariables false
set_option maxRecDepth 20000
set_option maxHeartbeats 1000000 in
theorem sLess_any (v1 v2 : Value) (B1 B2 : Nat) (x y : Fin 12) (w : World) (h1 : Row w B1 v1 (vec3 x)) (h2 : Row w B2 v2 (vec3 y)) :
    Calls Tryd.prog 23 #[v1, v2] w fun e w' => e = .returned (.bool (Tic.less x y)) ∧ Below w.heap.size w w' := by
  unfold vec3 at h1 h2
  obtain ⟨g1, m1, rfl, _, hg1, c0, c1, c2⟩ := h1.three
  obtain ⟨g2, m2, rfl, _, hg2, d0, d1, d2⟩ := h2.three
  have hx := Tic.oc_bd x
  have hy := Tic.oc_bd y
  have hx2 := x.isLt
  have hy2 := y.isLt
  have HP : Hid (Tic.Pws (Tic.oc x - Tic.oc y) ((x.val : Int) - (y.val : Int)) 0) := Lib.hid (by unfold Tic.Pws; omega)
  have HR := Lib.hid (fun v B w hr => sratioOf_any v B (Tic.oc x - Tic.oc y) ((x.val : Int) - (y.val : Int)) 0 w hr HP.out.fit)
  have HT := Lib.hid (Tic.less_tab x y)
  unfold ratV at HR
  clear h1 h2
  generalize Tic.less x y = L at *
  generalize Tic.rup (Tic.oc x - Tic.oc y) ((x.val : Int) - (y.val : Int)) 0 = U at *
  generalize Tic.rdn (Tic.oc x - Tic.oc y) ((x.val : Int) - (y.val : Int)) 0 = D at *
  generalize Tic.oc x = A at *
  generalize Tic.oc y = A' at *
  have hx0 : 0 ≤ (x.val : Int) := Int.natCast_nonneg _
  have hy0 : 0 ≤ (y.val : Int) := Int.natCast_nonneg _
  have hx3 : (x.val : Int) < 12 := by omega
  have hy3 : (y.val : Int) < 12 := by omega
  generalize (x.val : Int) = X at *
  generalize (y.val : Int) = Y at *
  clear HP hx2 hy2
  obtain ⟨a1, a2⟩ := hx
  obtain ⟨b1, b2⟩ := hy
  have e1 : IntKind.i64.wrap (A - A') = A - A' := IntWalk.i64_in _ (by omega)
  have e2 : IntKind.i64.wrap (X - Y) = X - Y := IntWalk.i64_in _ (by omega)
  have e3 : IntKind.i64.wrap 0 = 0 := IntWalk.i64_in _ (by omega)
  have HROW : Hid (Row (w.alloc (.cells #[.int .i64 (IntKind.i64.wrap (A - A')), .int .i64 (IntKind.i64.wrap (X - Y)), .int .i64 (IntKind.i64.wrap 0)] 3)).drew w.heap.size (.slice (some ⟨w.heap.size, 0, none⟩) 3 3) [A - A', X - Y, 0]) := by
    rw [e1, e2, e3]
    exact Row.built3 w _ _ _ (Nat.le_refl _)
  have HB : Hid (Below w.heap.size w (w.alloc (.cells #[.int .i64 (IntKind.i64.wrap (A - A')), .int .i64 (IntKind.i64.wrap (X - Y)), .int .i64 (IntKind.i64.wrap 0)] 3)).drew) := Lib.hid (((Below.refl w.heap.size w).alloc (Nat.le_refl _) _).drew)
  have HCALL := Lib.hid (HR.out _ _ _ HROW.out)
  clear e1 e2 e3 HROW HR
  go_enter Tryd.func23, Tryd.ntmps23
  go_wp2_with fail
  have hk0 : Below w.heap.size w w := Below.refl _ _
  go_region_held3 (fun w' => w'.cell? ⟨g1, 0, none⟩ = some (.int .i64 A) ∧ w'.cell? ⟨g1, 1, none⟩ = some (.int .i64 X) ∧ w'.cell? ⟨g1, 2, none⟩ = some (.int .i64 0) ∧ w'.cell? ⟨g2, 0, none⟩ = some (.int .i64 A') ∧ w'.cell? ⟨g2, 1, none⟩ = some (.int .i64 Y) ∧ w'.cell? ⟨g2, 2, none⟩ = some (.int .i64 0))
    (first | go_keep | (exact ⟨(hk0.cell (p := ⟨g1, 0, none⟩) hg1).trans c0, (hk0.cell (p := ⟨g1, 1, none⟩) hg1).trans c1, (hk0.cell (p := ⟨g1, 2, none⟩) hg1).trans c2, (hk0.cell (p := ⟨g2, 0, none⟩) hg2).trans d0, (hk0.cell (p := ⟨g2, 1, none⟩) hg2).trans d1, (hk0.cell (p := ⟨g2, 2, none⟩) hg2).trans d2⟩))
    (first | (go_at_call 39; refine HCALL.out.mono ?_; rintro e w7 ⟨rfl, hb⟩; replace hk0 : Below w.heap.size w w7 := HB.out.trans (hb.mono HB.out.size); clear hb) | fail)
  clear HB HCALL c0 c1 c2 d0 d1 d2
  go_wp2
  go_ret
  refine ⟨?_, hk0⟩
  show Ending.returned (.bool (decide (U < D))) = _
  rw [HT.out]
end Go.Proofs.YtpcbplademohnaaDoor
