/-
  Contracts of BeatsOf, of the program and of the model.
-/
import Derived.Test.YtahpjfdecjfpcaaBeatsSpec
import Derived.Deep.RegionHeld3
import Derived.Deep.DeepCutAuto
namespace Go.Proofs.Ytahpjfdecjfpcaa
open Go.RowKit
set_option linter.unusedVariables false

theorem grow1b {a b d : World} (h : Below a.heap.size a b) (k : Below b.drew.heap.size b.drew d) : Below a.heap.size a d := h.drew.trans (k.mono h.size)
theorem grow0b {a b d : World} (h : Below a.heap.size a b) (k : Below b.heap.size b d) : Below a.heap.size a d := h.trans (k.mono h.size)
theorem Row.setb {w : World} {B b o : Nat} {v u : Value} {L : List Int} (h : Row w B v L) (hb : b < B) : Row (w.setCell ⟨b, o, none⟩ u) B v L := ⟨ownsRow_setCell_below h.1 (a := ⟨b, o, none⟩) hb _, h.2⟩
theorem up1 {w : World} {a : Addr} {v : Value} (h : w.cell? a = some v) (o : Obj) : (w.alloc o).cell? a = some v := (World.cell?_alloc_some w a o (by rw [h]; rfl)).trans h
theorem up2 {w : World} {a : Addr} {v : Value} (h : w.cell? a = some v) (o p : Obj) : ((w.alloc o).alloc p).cell? a = some v := up1 (up1 h o) p
theorem abstractly {P : World → Prop} {W : World} (Facts : World → Prop) (h : Facts W) (k : ∀ W, Facts W → P W) : P W := k W h
/-- what a pairing has in memory when the pair is made: the two arguments in blocks h and h + 1, room for the two results in h + 2 and h + 3, the pair in block p -/
def Mid (w : World) (p : Nat) (u1 u2 u3 u4 vj m : Value) (LM : List Int) (W : World) : Prop :=
  (W.cell? ⟨w.heap.size, 0, none⟩ = some u1 ∧ W.cell? ⟨w.heap.size, 1, none⟩ = some u2 ∧ W.cell? ⟨w.heap.size + 1, 0, none⟩ = some u3 ∧ W.cell? ⟨w.heap.size + 1, 1, none⟩ = some u4) ∧
  (W.cell? ⟨w.heap.size + 1 + 1, 0, none⟩ = some (.slice none 0 0) ∧ W.cell? ⟨w.heap.size + 1 + 1, 1, none⟩ = some (.int .i64 0) ∧ W.cell? ⟨w.heap.size + 1 + 1 + 1, 0, none⟩ = some (.slice none 0 0) ∧ W.cell? ⟨w.heap.size + 1 + 1 + 1, 1, none⟩ = some (.int .i64 0)) ∧
  (W.frozen? ⟨w.heap.size + 1 + 1, 0, none⟩ = false ∧ W.frozen? ⟨w.heap.size + 1 + 1, 1, none⟩ = false ∧ W.frozen? ⟨w.heap.size + 1 + 1 + 1, 0, none⟩ = false ∧ W.frozen? ⟨w.heap.size + 1 + 1 + 1, 1, none⟩ = false) ∧
  (W.cell? ⟨p, 0, none⟩ = some vj ∧ W.cell? ⟨p, 1, none⟩ = some m) ∧ w.heap.size + 1 + 1 + 1 < p ∧ p < W.heap.size ∧ Row W (w.heap.size + 1 + 1 + 1 + 1) vj LM ∧ Below w.heap.size w W
theorem far2 {w : World} {g o1 o2 c o : Nat} {x y v : Value} (h : w.cell? ⟨c, o, none⟩ = some v) (hne : g ≠ c) : ((w.setCell ⟨g, o1, none⟩ x).setCell ⟨g, o2, none⟩ y).cell? ⟨c, o, none⟩ = some v := by
  rw [World.cell?_setCell_other _ _ _ _ (by simp), World.cell?_setCell_other _ _ _ _ (by simp)]; exact h
theorem paired_end {Q : Ending → World → Prop} {T : Array Value} {W : World} {b c : Nat} {v1 d1 v2 d2 : Value} (h4 : T.getD 4 undef = .pointer (some ⟨b, 0, none⟩)) (h5 : T.getD 5 undef = .pointer (some ⟨c, 0, none⟩))
    (c0 : W.cell? ⟨b, 0, none⟩ = some v1) (c1 : W.cell? ⟨b, 1, none⟩ = some d1) (e0 : W.cell? ⟨c, 0, none⟩ = some v2) (e1 : W.cell? ⟨c, 1, none⟩ = some d2) (hq : Q (.returned (.tuple #[.agg #[v1, d1], .agg #[v2, d2]])) W) :
    bodyPost Try.prog Try.f40 Q Exit.ret { tmps := T, defers := [] } W := by
  refine bodyPost_ret (v := .tuple #[.agg #[v1, d1], .agg #[v2, d2]]) ?_ rfl hq
  simp only [Array.getD_eq_getD_getElem?] at h4 h5
  simp [results, Try.results40, go_sem, h4, h5, c0, c1, e0, e1]
theorem quad {w : World} {b c : Nat} {u0 u1 u2 u3 : Value} (x0 x1 y0 y1 : Value) (hbc : b ≠ c) (r0 : w.cell? ⟨b, 0, none⟩ = some u0) (r1 : w.cell? ⟨b, 1, none⟩ = some u1) (s0 : w.cell? ⟨c, 0, none⟩ = some u2) (s1 : w.cell? ⟨c, 1, none⟩ = some u3) :
    ((((w.setCell ⟨b, 0, none⟩ x0).setCell ⟨b, 1, none⟩ x1).setCell ⟨c, 0, none⟩ y0).setCell ⟨c, 1, none⟩ y1).cell? ⟨b, 0, none⟩ = some x0 ∧
    ((((w.setCell ⟨b, 0, none⟩ x0).setCell ⟨b, 1, none⟩ x1).setCell ⟨c, 0, none⟩ y0).setCell ⟨c, 1, none⟩ y1).cell? ⟨b, 1, none⟩ = some x1 ∧
    ((((w.setCell ⟨b, 0, none⟩ x0).setCell ⟨b, 1, none⟩ x1).setCell ⟨c, 0, none⟩ y0).setCell ⟨c, 1, none⟩ y1).cell? ⟨c, 0, none⟩ = some y0 ∧
    ((((w.setCell ⟨b, 0, none⟩ x0).setCell ⟨b, 1, none⟩ x1).setCell ⟨c, 0, none⟩ y0).setCell ⟨c, 1, none⟩ y1).cell? ⟨c, 1, none⟩ = some y1 := by
  obtain ⟨e0, e1⟩ := pair_back (x := x0) (y := x1) r0 r1
  have t0 : ((w.setCell ⟨b, 0, none⟩ x0).setCell ⟨b, 1, none⟩ x1).cell? ⟨c, 0, none⟩ = some u2 := by
    rw [World.cell?_setCell_other _ _ _ _ (by simp), World.cell?_setCell_other _ _ _ _ (by simp)]; exact s0
  have t1 : ((w.setCell ⟨b, 0, none⟩ x0).setCell ⟨b, 1, none⟩ x1).cell? ⟨c, 1, none⟩ = some u3 := by
    rw [World.cell?_setCell_other _ _ _ _ (by simp), World.cell?_setCell_other _ _ _ _ (by simp)]; exact s1
  obtain ⟨f0, f1⟩ := pair_back (x := y0) (y := y1) t0 t1
  refine ⟨?_, ?_, f0, f1⟩
  · rw [World.cell?_setCell_other _ _ _ _ (by first | (simp; done) | (simp; intro e; exact absurd e.symm hbc)), World.cell?_setCell_other _ _ _ _ (by first | (simp; done) | (simp; intro e; exact absurd e.symm hbc))]; exact e0
  · rw [World.cell?_setCell_other _ _ _ _ (by first | (simp; done) | (simp; intro e; exact absurd e.symm hbc)), World.cell?_setCell_other _ _ _ _ (by first | (simp; done) | (simp; intro e; exact absurd e.symm hbc))]; exact e1

set_option maxHeartbeats 4000000 in
set_option maxRecDepth 20000 in
theorem paired_lt (v1 v2 : Value) (B1 B2 : Nat) (L M : List Int) (x y : Nat) (w : World) (h1 : Row w B1 v1 L) (h2 : Row w B2 v2 M) (hL : L.length ≤ 12) (hM : M.length ≤ 12) (hx : x ≤ 12) (hy : y ≤ 12) (hxy : x < y) :
    Calls Try.prog 40 #[.agg #[v1, .int .i64 x], .agg #[v2, .int .i64 y]] w fun e w' => ∃ v, Row w' w.heap.size v (L ++ M) ∧ Below w.heap.size w w' ∧
      e = .returned (.tuple #[.agg #[v, .int .i64 (min x y : Nat)], .agg #[v2, .int .i64 (y - x : Nat)]]) := by
  obtain ⟨a1, c1, rfl⟩ := h1.lens
  obtain ⟨a2, c2, rfl⟩ := h2.lens
  have H1 := Lib.hid h1
  have H2 := Lib.hid h2
  clear h1 h2
  have HJ := Lib.hid (fun W (ha : Row W B1 (.slice a1 L.length c1) L) (hb : Row W B2 (.slice a2 M.length c2) M) => joined_any _ _ _ _ L M W ha hb (by omega))
  go_enter Try.func40, Try.ntmps40
  go_wp2_with fail
  have c0 : ((((w.alloc (.cells #[.slice a1 L.length c1, .int .i64 x] 49)).alloc (.cells #[.slice a2 M.length c2, .int .i64 y] 49)).alloc (.cells #[.slice none 0 0, .int .i64 0] 49)).alloc (.cells #[.slice none 0 0, .int .i64 0] 49)).cell? ⟨w.heap.size, 0, none⟩ = some (.slice a1 L.length c1) := by go_simp
  have c1' : ((((w.alloc (.cells #[.slice a1 L.length c1, .int .i64 x] 49)).alloc (.cells #[.slice a2 M.length c2, .int .i64 y] 49)).alloc (.cells #[.slice none 0 0, .int .i64 0] 49)).alloc (.cells #[.slice none 0 0, .int .i64 0] 49)).cell? ⟨w.heap.size, 1, none⟩ = some (.int .i64 x) := by go_simp
  have d0 : ((((w.alloc (.cells #[.slice a1 L.length c1, .int .i64 x] 49)).alloc (.cells #[.slice a2 M.length c2, .int .i64 y] 49)).alloc (.cells #[.slice none 0 0, .int .i64 0] 49)).alloc (.cells #[.slice none 0 0, .int .i64 0] 49)).cell? ⟨w.heap.size + 1, 0, none⟩ = some (.slice a2 M.length c2) := by go_simp
  have d1 : ((((w.alloc (.cells #[.slice a1 L.length c1, .int .i64 x] 49)).alloc (.cells #[.slice a2 M.length c2, .int .i64 y] 49)).alloc (.cells #[.slice none 0 0, .int .i64 0] 49)).alloc (.cells #[.slice none 0 0, .int .i64 0] 49)).cell? ⟨w.heap.size + 1, 1, none⟩ = some (.int .i64 y) := by go_simp
  have r0 : ((((w.alloc (.cells #[.slice a1 L.length c1, .int .i64 x] 49)).alloc (.cells #[.slice a2 M.length c2, .int .i64 y] 49)).alloc (.cells #[.slice none 0 0, .int .i64 0] 49)).alloc (.cells #[.slice none 0 0, .int .i64 0] 49)).cell? ⟨w.heap.size + 1 + 1, 0, none⟩ = some (.slice none 0 0) := by go_simp
  have r1 : ((((w.alloc (.cells #[.slice a1 L.length c1, .int .i64 x] 49)).alloc (.cells #[.slice a2 M.length c2, .int .i64 y] 49)).alloc (.cells #[.slice none 0 0, .int .i64 0] 49)).alloc (.cells #[.slice none 0 0, .int .i64 0] 49)).cell? ⟨w.heap.size + 1 + 1, 1, none⟩ = some (.int .i64 0) := by go_simp
  have s0 : ((((w.alloc (.cells #[.slice a1 L.length c1, .int .i64 x] 49)).alloc (.cells #[.slice a2 M.length c2, .int .i64 y] 49)).alloc (.cells #[.slice none 0 0, .int .i64 0] 49)).alloc (.cells #[.slice none 0 0, .int .i64 0] 49)).cell? ⟨w.heap.size + 1 + 1 + 1, 0, none⟩ = some (.slice none 0 0) := by go_simp
  have s1 : ((((w.alloc (.cells #[.slice a1 L.length c1, .int .i64 x] 49)).alloc (.cells #[.slice a2 M.length c2, .int .i64 y] 49)).alloc (.cells #[.slice none 0 0, .int .i64 0] 49)).alloc (.cells #[.slice none 0 0, .int .i64 0] 49)).cell? ⟨w.heap.size + 1 + 1 + 1, 1, none⟩ = some (.int .i64 0) := by go_simp
  have p0 : ((((w.alloc (.cells #[.slice a1 L.length c1, .int .i64 x] 49)).alloc (.cells #[.slice a2 M.length c2, .int .i64 y] 49)).alloc (.cells #[.slice none 0 0, .int .i64 0] 49)).alloc (.cells #[.slice none 0 0, .int .i64 0] 49)).frozen? ⟨w.heap.size + 1 + 1, 0, none⟩ = false := by go_simp
  have p1 : ((((w.alloc (.cells #[.slice a1 L.length c1, .int .i64 x] 49)).alloc (.cells #[.slice a2 M.length c2, .int .i64 y] 49)).alloc (.cells #[.slice none 0 0, .int .i64 0] 49)).alloc (.cells #[.slice none 0 0, .int .i64 0] 49)).frozen? ⟨w.heap.size + 1 + 1, 1, none⟩ = false := by go_simp
  have q0 : ((((w.alloc (.cells #[.slice a1 L.length c1, .int .i64 x] 49)).alloc (.cells #[.slice a2 M.length c2, .int .i64 y] 49)).alloc (.cells #[.slice none 0 0, .int .i64 0] 49)).alloc (.cells #[.slice none 0 0, .int .i64 0] 49)).frozen? ⟨w.heap.size + 1 + 1 + 1, 0, none⟩ = false := by go_simp
  have q1 : ((((w.alloc (.cells #[.slice a1 L.length c1, .int .i64 x] 49)).alloc (.cells #[.slice a2 M.length c2, .int .i64 y] 49)).alloc (.cells #[.slice none 0 0, .int .i64 0] 49)).alloc (.cells #[.slice none 0 0, .int .i64 0] 49)).frozen? ⟨w.heap.size + 1 + 1 + 1, 1, none⟩ = false := by go_simp
  have hz : ((((w.alloc (.cells #[.slice a1 L.length c1, .int .i64 x] 49)).alloc (.cells #[.slice a2 M.length c2, .int .i64 y] 49)).alloc (.cells #[.slice none 0 0, .int .i64 0] 49)).alloc (.cells #[.slice none 0 0, .int .i64 0] 49)).heap.size = w.heap.size + 1 + 1 + 1 + 1 := by simp
  have hbel : Below w.heap.size w ((((w.alloc (.cells #[.slice a1 L.length c1, .int .i64 x] 49)).alloc (.cells #[.slice a2 M.length c2, .int .i64 y] 49)).alloc (.cells #[.slice none 0 0, .int .i64 0] 49)).alloc (.cells #[.slice none 0 0, .int .i64 0] 49)) := ((((Below.refl _ _).alloc (Nat.le_refl _) _).alloc (by simp) _).alloc (by simp; omega) _).alloc (by simp; omega) _
  generalize ((((w.alloc (.cells #[.slice a1 L.length c1, .int .i64 x] 49)).alloc (.cells #[.slice a2 M.length c2, .int .i64 y] 49)).alloc (.cells #[.slice none 0 0, .int .i64 0] 49)).alloc (.cells #[.slice none 0 0, .int .i64 0] 49)) = W at c0 c1' d0 d1 r0 r1 s0 s1 p0 p1 q0 q1 hz hbel ⊢
  have hz0 : w.heap.size < W.heap.size := by omega
  have hz1 : w.heap.size + 1 < W.heap.size := by omega
  have H1W := Lib.hid (H1.out.kept hbel)
  have H2W := Lib.hid (H2.out.kept hbel)
  have hz4 : w.heap.size + 1 + 1 + 1 < W.heap.size := by omega
  have hz3 : w.heap.size + 1 + 1 < W.heap.size := by omega
  clear hz
  have hk0 : Below W.heap.size W W := Below.refl _ _
  have hmn : min (x : Int) (y : Int) = ((min x y : Nat) : Int) := by omega
  have e1 : (x : Int) < (y : Int) := by omega
  have hmx : ((min x y : Nat) : Int) = (x : Int) := by omega
  have hs1 := IntWalk.i64_in ((y : Int) - (x : Int)) (by omega)
  have hyx : (y : Int) - (x : Int) = ((y - x : Nat) : Int) := by omega
  rw [hmx] at hmn
  have HMX := Lib.hid hmx
  clear hmx
  rw [hyx] at hs1
  have HK : Hid (∀ w1, Below W.heap.size W w1 → ∀ p (av : Option Addr) cv, W.heap.size ≤ p → p < w1.heap.size → w1.cell? ⟨p, 0, none⟩ = some (.slice av (L.length + M.length) cv) → w1.cell? ⟨p, 1, none⟩ = some (.int .i64 x) → Row w1 (w.heap.size + 1 + 1 + 1 + 1) (.slice av (L.length + M.length) cv) (L ++ M) →
      Mid w p (.slice a1 L.length c1) (.int .i64 x) (.slice a2 M.length c2) (.int .i64 y) (.slice av (L.length + M.length) cv) (.int .i64 x) (L ++ M) w1) := Lib.hid (fun w1 hk p av cv hp hp2 e1 e2 hr =>
    ⟨⟨(hk.cell (p := ⟨w.heap.size, 0, none⟩) hz0).trans c0, (hk.cell (p := ⟨w.heap.size, 1, none⟩) hz0).trans c1', (hk.cell (p := ⟨w.heap.size + 1, 0, none⟩) hz1).trans d0, (hk.cell (p := ⟨w.heap.size + 1, 1, none⟩) hz1).trans d1⟩,
     ⟨(hk.cell (p := ⟨w.heap.size + 1 + 1, 0, none⟩) hz3).trans r0, (hk.cell (p := ⟨w.heap.size + 1 + 1, 1, none⟩) hz3).trans r1, (hk.cell (p := ⟨w.heap.size + 1 + 1 + 1, 0, none⟩) hz4).trans s0, (hk.cell (p := ⟨w.heap.size + 1 + 1 + 1, 1, none⟩) hz4).trans s1⟩,
     ⟨(hk.frozen (p := ⟨w.heap.size + 1 + 1, 0, none⟩) hz3).trans p0, (hk.frozen (p := ⟨w.heap.size + 1 + 1, 1, none⟩) hz3).trans p1, (hk.frozen (p := ⟨w.heap.size + 1 + 1 + 1, 0, none⟩) hz4).trans q0, (hk.frozen (p := ⟨w.heap.size + 1 + 1 + 1, 1, none⟩) hz4).trans q1⟩,
     ⟨e1, e2⟩, by omega, hp2, hr, hbel.trans (hk.mono (by omega))⟩)
  clear r0 r1 s0 s1 p0 p1 q0 q1 hbel hz3
  go_cut [6] (fun s6 wx => ∃ (p : Nat) (av : Option Addr) (cv : Nat), s6 = .pointer (some ⟨p, 0, none⟩) ∧ Hid (Mid w p (.slice a1 L.length c1) (.int .i64 x) (.slice a2 M.length c2) (.int .i64 y) (.slice av (L.length + M.length) cv) (.int .i64 x) (L ++ M) wx))
  case first =>
    go_region_held3 (fun w' => w'.cell? ⟨w.heap.size, 0, none⟩ = some (.slice a1 L.length c1) ∧ w'.cell? ⟨w.heap.size, 1, none⟩ = some (.int .i64 x) ∧ w'.cell? ⟨w.heap.size + 1, 0, none⟩ = some (.slice a2 M.length c2) ∧ w'.cell? ⟨w.heap.size + 1, 1, none⟩ = some (.int .i64 y))
      (first | go_keep | (refine ⟨?_, ?_, ?_, ?_⟩ <;> ((refine (hk0.cell ?_).trans ?_) <;> assumption)))
      (first | (go_at_call 41; refine (HJ.out W.drew H1W.out H2W.out).mono ?_; rintro e w1 ⟨v, rfl, hr, hb⟩; replace hr := hr.mono (B' := w.heap.size + 1 + 1 + 1 + 1) (show w.heap.size + 1 + 1 + 1 + 1 ≤ W.heap.size by omega); obtain ⟨av, cv, rfl⟩ := hr.lens; rw [List.length_append] at hr; have HR := Lib.hid hr; clear hr; replace hk0 : Below W.heap.size W w1 := (by first | exact grow1b hk0 hb | exact grow0b hk0 hb); clear hb; have n0 : w1.heap.size ≠ w.heap.size := (by have := hk0.size; omega); have n1 : w1.heap.size ≠ w.heap.size + 1 := (by have := hk0.size; omega); have k0 := (hk0.cell (p := ⟨w.heap.size, 0, none⟩) hz0).trans c0; have k1 := (hk0.cell (p := ⟨w.heap.size, 1, none⟩) hz0).trans c1'; have k2 := (hk0.cell (p := ⟨w.heap.size + 1, 0, none⟩) hz1).trans d0; have k3 := (hk0.cell (p := ⟨w.heap.size + 1, 1, none⟩) hz1).trans d1) | (go_at_call 41; refine (HJ.out (W.alloc (.cells #[.slice none 0 0, .int .i64 0] 49)).drew (H1W.out.alloc _) (H2W.out.alloc _)).mono ?_; rintro e w1 ⟨v, rfl, hr, hb⟩; replace hr := hr.mono (B' := W.heap.size + 1) (by simp); obtain ⟨av, cv, rfl⟩ := hr.lens; rw [List.length_append] at hr; have HR := Lib.hid hr; clear hr; replace hk0 : Below W.heap.size W w1 := (((Below.refl _ _).alloc (Nat.le_refl _) _).drew.trans (hb.mono (by simp))); have m0 : w1.cell? ⟨W.heap.size, 0, none⟩ = some (.slice none 0 0) := (by rw [hb.cell (p := ⟨W.heap.size, 0, none⟩) (by simp)]; go_simp); have m1 : w1.cell? ⟨W.heap.size, 1, none⟩ = some (.int .i64 0) := (by rw [hb.cell (p := ⟨W.heap.size, 1, none⟩) (by simp)]; go_simp); have m2 : w1.frozen? ⟨W.heap.size, 0, none⟩ = false := (by rw [hb.frozen (p := ⟨W.heap.size, 0, none⟩) (by simp)]; go_simp); have m3 : w1.frozen? ⟨W.heap.size, 1, none⟩ = false := (by rw [hb.frozen (p := ⟨W.heap.size, 1, none⟩) (by simp)]; go_simp); have hsz : W.heap.size < w1.heap.size := (by have := hb.size; simp at this; omega); clear hb; have n6 : W.heap.size ≠ w.heap.size := (by omega); have n7 : W.heap.size ≠ w.heap.size + 1 := (by omega); have k0 := (hk0.cell (p := ⟨w.heap.size, 0, none⟩) hz0).trans c0; have k1 := (hk0.cell (p := ⟨w.heap.size, 1, none⟩) hz0).trans c1'; have k2 := (hk0.cell (p := ⟨w.heap.size + 1, 0, none⟩) hz1).trans d0; have k3 := (hk0.cell (p := ⟨w.heap.size + 1, 1, none⟩) hz1).trans d1))
    all_goals
      go_wp2_with fail
      go_meet
      first
        | exact ⟨w1.heap.size, av, cv, rfl, Lib.hid (HK.out _ (hk0.alloc hk0.size _) _ av cv hk0.size (by simp) (by go_simp) (by go_simp) (HR.out.alloc _))⟩
        | (obtain ⟨y0, y1⟩ := pair_back (x := Value.slice av (L.length + M.length) cv) (y := Value.int .i64 (x : Int)) m0 m1
           exact ⟨W.heap.size, av, cv, rfl, Lib.hid (HK.out _ ((hk0.setCell (Nat.le_refl _) _).setCell (Nat.le_refl _) _) _ av cv (Nat.le_refl _) (by simpa using hsz) y0 y1 (((HR.out.setb (by omega)).setb (by omega)).mono (by omega)))⟩)
  case rest =>
    obtain ⟨p, av, cv, rfl, HM⟩ := hcut
    obtain ⟨⟨k0, k1, k2, k3⟩, ⟨r0, r1, s0, s1⟩, ⟨p0, p1, q0, q1⟩, ⟨m0, m1⟩, hp, hpz, hr, hbw⟩ := HM.out
    have HR := Lib.hid hr
    have HBW := Lib.hid hbw
    clear hr hbw HM HK
    have n1 : ¬ wc.heap.size = p := by omega
    have n2 : ¬ wc.heap.size = w.heap.size := by omega
    have n3 : ¬ wc.heap.size = w.heap.size + 1 := by omega
    have n4 : ¬ p = wc.heap.size := by omega
    have l1 : w.heap.size < wc.heap.size := by omega
    have l2 : w.heap.size + 1 < wc.heap.size := by omega
    go_wp2
    have f0 := up1 m0 (.cells #[.slice a2 M.length c2, .int .i64 (y - x : Nat)] 49)
    have f1 := up1 m1 (.cells #[.slice a2 M.length c2, .int .i64 (y - x : Nat)] 49)
    have f2 : (wc.alloc (.cells #[.slice a2 M.length c2, .int .i64 (y - x : Nat)] 49)).cell? ⟨wc.heap.size, 0, none⟩ = some (.slice a2 M.length c2) := by go_simp
    have f3 : (wc.alloc (.cells #[.slice a2 M.length c2, .int .i64 (y - x : Nat)] 49)).cell? ⟨wc.heap.size, 1, none⟩ = some (.int .i64 (y - x : Nat)) := by go_simp
    have g0 := up1 r0 (.cells #[.slice a2 M.length c2, .int .i64 (y - x : Nat)] 49)
    have g1 := up1 r1 (.cells #[.slice a2 M.length c2, .int .i64 (y - x : Nat)] 49)
    have g2 := up1 s0 (.cells #[.slice a2 M.length c2, .int .i64 (y - x : Nat)] 49)
    have g3 := up1 s1 (.cells #[.slice a2 M.length c2, .int .i64 (y - x : Nat)] 49)
    have hal := (Below.refl wc.heap.size wc).alloc (Nat.le_refl _) (.cells #[.slice a2 M.length c2, .int .i64 (y - x : Nat)] 49)
    have j0 := (hal.frozen (p := ⟨w.heap.size + 1 + 1, 0, none⟩) (show w.heap.size + 1 + 1 < _ by omega)).trans p0
    have j1 := (hal.frozen (p := ⟨w.heap.size + 1 + 1, 1, none⟩) (show w.heap.size + 1 + 1 < _ by omega)).trans p1
    have j2 := (hal.frozen (p := ⟨w.heap.size + 1 + 1 + 1, 0, none⟩) (show w.heap.size + 1 + 1 + 1 < _ by omega)).trans q0
    have j3 := (hal.frozen (p := ⟨w.heap.size + 1 + 1 + 1, 1, none⟩) (show w.heap.size + 1 + 1 + 1 < _ by omega)).trans q1
    have HR2 := Lib.hid (HR.out.alloc (.cells #[.slice a2 M.length c2, .int .i64 (y - x : Nat)] 49))
    have HB2 := Lib.hid (HBW.out.alloc HBW.out.size (.cells #[.slice a2 M.length c2, .int .i64 (y - x : Nat)] 49))
    clear hal m0 m1 r0 r1 s0 s1 p0 p1 q0 q1 k0 k1 k2 k3 HR HBW c0 c1' d0 d1
    generalize wc.alloc (.cells #[.slice a2 M.length c2, .int .i64 (y - x : Nat)] 49) = W6 at f0 f1 f2 f3 g0 g1 g2 g3 j0 j1 j2 j3 HR2 HB2 ⊢
    have n5 : ¬ p = w.heap.size + 1 + 1 := by omega
    have n6 : ¬ p = w.heap.size + 1 + 1 + 1 := by omega
    have n7 : ¬ wc.heap.size = w.heap.size + 1 + 1 := by omega
    have n8 : ¬ wc.heap.size = w.heap.size + 1 + 1 + 1 := by omega
    have n9 : ¬ w.heap.size + 1 + 1 = p := by omega
    have n10 : ¬ w.heap.size + 1 + 1 + 1 = p := by omega
    have n11 : ¬ w.heap.size + 1 + 1 = wc.heap.size := by omega
    have n12 : ¬ w.heap.size + 1 + 1 + 1 = wc.heap.size := by omega
    go_region
    all_goals
      go_wp2
      clear n1 n2 n3 n4 n5 n6 n7 n8 n9 n10 n11 n12
      obtain ⟨z0, z1, z2, z3⟩ := quad (b := w.heap.size + 1 + 1) (c := w.heap.size + 1 + 1 + 1) (.slice av (L.length + M.length) cv) (.int .i64 x) (.slice a2 M.length c2) (.int .i64 (y - x : Nat)) (by omega) g0 g1 g2 g3
      refine paired_end rfl rfl z0 z1 z2 z3 ⟨.slice av (L.length + M.length) cv, ?_, ?_, by rw [HMX.out]⟩
      · exact ((((HR2.out.setb (by omega)).setb (by omega)).setb (by omega)).setb (by omega)).mono (by omega)
      · exact ((((HB2.out.setCell (show w.heap.size ≤ w.heap.size + 1 + 1 by omega) _).setCell (show w.heap.size ≤ w.heap.size + 1 + 1 by omega) _).setCell (show w.heap.size ≤ w.heap.size + 1 + 1 + 1 by omega) _).setCell (show w.heap.size ≤ w.heap.size + 1 + 1 + 1 by omega) _).drew
set_option maxHeartbeats 4000000 in
set_option maxRecDepth 20000 in
theorem paired_ge (v1 v2 : Value) (B1 B2 : Nat) (L M : List Int) (x y : Nat) (w : World) (h1 : Row w B1 v1 L) (h2 : Row w B2 v2 M) (hL : L.length ≤ 12) (hM : M.length ≤ 12) (hx : x ≤ 12) (hy : y ≤ 12) (hxy : ¬ x < y) :
    Calls Try.prog 40 #[.agg #[v1, .int .i64 x], .agg #[v2, .int .i64 y]] w fun e w' => ∃ v, Row w' w.heap.size v (L ++ M) ∧ Below w.heap.size w w' ∧
      e = .returned (.tuple #[.agg #[v, .int .i64 (min x y : Nat)], .agg #[v1, .int .i64 (x - y : Nat)]]) := by
  obtain ⟨a1, c1, rfl⟩ := h1.lens
  obtain ⟨a2, c2, rfl⟩ := h2.lens
  have H1 := Lib.hid h1
  have H2 := Lib.hid h2
  clear h1 h2
  have HJ := Lib.hid (fun W (ha : Row W B1 (.slice a1 L.length c1) L) (hb : Row W B2 (.slice a2 M.length c2) M) => joined_any _ _ _ _ L M W ha hb (by omega))
  go_enter Try.func40, Try.ntmps40
  go_wp2_with fail
  have c0 : ((((w.alloc (.cells #[.slice a1 L.length c1, .int .i64 x] 49)).alloc (.cells #[.slice a2 M.length c2, .int .i64 y] 49)).alloc (.cells #[.slice none 0 0, .int .i64 0] 49)).alloc (.cells #[.slice none 0 0, .int .i64 0] 49)).cell? ⟨w.heap.size, 0, none⟩ = some (.slice a1 L.length c1) := by go_simp
  have c1' : ((((w.alloc (.cells #[.slice a1 L.length c1, .int .i64 x] 49)).alloc (.cells #[.slice a2 M.length c2, .int .i64 y] 49)).alloc (.cells #[.slice none 0 0, .int .i64 0] 49)).alloc (.cells #[.slice none 0 0, .int .i64 0] 49)).cell? ⟨w.heap.size, 1, none⟩ = some (.int .i64 x) := by go_simp
  have d0 : ((((w.alloc (.cells #[.slice a1 L.length c1, .int .i64 x] 49)).alloc (.cells #[.slice a2 M.length c2, .int .i64 y] 49)).alloc (.cells #[.slice none 0 0, .int .i64 0] 49)).alloc (.cells #[.slice none 0 0, .int .i64 0] 49)).cell? ⟨w.heap.size + 1, 0, none⟩ = some (.slice a2 M.length c2) := by go_simp
  have d1 : ((((w.alloc (.cells #[.slice a1 L.length c1, .int .i64 x] 49)).alloc (.cells #[.slice a2 M.length c2, .int .i64 y] 49)).alloc (.cells #[.slice none 0 0, .int .i64 0] 49)).alloc (.cells #[.slice none 0 0, .int .i64 0] 49)).cell? ⟨w.heap.size + 1, 1, none⟩ = some (.int .i64 y) := by go_simp
  have r0 : ((((w.alloc (.cells #[.slice a1 L.length c1, .int .i64 x] 49)).alloc (.cells #[.slice a2 M.length c2, .int .i64 y] 49)).alloc (.cells #[.slice none 0 0, .int .i64 0] 49)).alloc (.cells #[.slice none 0 0, .int .i64 0] 49)).cell? ⟨w.heap.size + 1 + 1, 0, none⟩ = some (.slice none 0 0) := by go_simp
  have r1 : ((((w.alloc (.cells #[.slice a1 L.length c1, .int .i64 x] 49)).alloc (.cells #[.slice a2 M.length c2, .int .i64 y] 49)).alloc (.cells #[.slice none 0 0, .int .i64 0] 49)).alloc (.cells #[.slice none 0 0, .int .i64 0] 49)).cell? ⟨w.heap.size + 1 + 1, 1, none⟩ = some (.int .i64 0) := by go_simp
  have s0 : ((((w.alloc (.cells #[.slice a1 L.length c1, .int .i64 x] 49)).alloc (.cells #[.slice a2 M.length c2, .int .i64 y] 49)).alloc (.cells #[.slice none 0 0, .int .i64 0] 49)).alloc (.cells #[.slice none 0 0, .int .i64 0] 49)).cell? ⟨w.heap.size + 1 + 1 + 1, 0, none⟩ = some (.slice none 0 0) := by go_simp
  have s1 : ((((w.alloc (.cells #[.slice a1 L.length c1, .int .i64 x] 49)).alloc (.cells #[.slice a2 M.length c2, .int .i64 y] 49)).alloc (.cells #[.slice none 0 0, .int .i64 0] 49)).alloc (.cells #[.slice none 0 0, .int .i64 0] 49)).cell? ⟨w.heap.size + 1 + 1 + 1, 1, none⟩ = some (.int .i64 0) := by go_simp
  have p0 : ((((w.alloc (.cells #[.slice a1 L.length c1, .int .i64 x] 49)).alloc (.cells #[.slice a2 M.length c2, .int .i64 y] 49)).alloc (.cells #[.slice none 0 0, .int .i64 0] 49)).alloc (.cells #[.slice none 0 0, .int .i64 0] 49)).frozen? ⟨w.heap.size + 1 + 1, 0, none⟩ = false := by go_simp
  have p1 : ((((w.alloc (.cells #[.slice a1 L.length c1, .int .i64 x] 49)).alloc (.cells #[.slice a2 M.length c2, .int .i64 y] 49)).alloc (.cells #[.slice none 0 0, .int .i64 0] 49)).alloc (.cells #[.slice none 0 0, .int .i64 0] 49)).frozen? ⟨w.heap.size + 1 + 1, 1, none⟩ = false := by go_simp
  have q0 : ((((w.alloc (.cells #[.slice a1 L.length c1, .int .i64 x] 49)).alloc (.cells #[.slice a2 M.length c2, .int .i64 y] 49)).alloc (.cells #[.slice none 0 0, .int .i64 0] 49)).alloc (.cells #[.slice none 0 0, .int .i64 0] 49)).frozen? ⟨w.heap.size + 1 + 1 + 1, 0, none⟩ = false := by go_simp
  have q1 : ((((w.alloc (.cells #[.slice a1 L.length c1, .int .i64 x] 49)).alloc (.cells #[.slice a2 M.length c2, .int .i64 y] 49)).alloc (.cells #[.slice none 0 0, .int .i64 0] 49)).alloc (.cells #[.slice none 0 0, .int .i64 0] 49)).frozen? ⟨w.heap.size + 1 + 1 + 1, 1, none⟩ = false := by go_simp
  have hz : ((((w.alloc (.cells #[.slice a1 L.length c1, .int .i64 x] 49)).alloc (.cells #[.slice a2 M.length c2, .int .i64 y] 49)).alloc (.cells #[.slice none 0 0, .int .i64 0] 49)).alloc (.cells #[.slice none 0 0, .int .i64 0] 49)).heap.size = w.heap.size + 1 + 1 + 1 + 1 := by simp
  have hbel : Below w.heap.size w ((((w.alloc (.cells #[.slice a1 L.length c1, .int .i64 x] 49)).alloc (.cells #[.slice a2 M.length c2, .int .i64 y] 49)).alloc (.cells #[.slice none 0 0, .int .i64 0] 49)).alloc (.cells #[.slice none 0 0, .int .i64 0] 49)) := ((((Below.refl _ _).alloc (Nat.le_refl _) _).alloc (by simp) _).alloc (by simp; omega) _).alloc (by simp; omega) _
  generalize ((((w.alloc (.cells #[.slice a1 L.length c1, .int .i64 x] 49)).alloc (.cells #[.slice a2 M.length c2, .int .i64 y] 49)).alloc (.cells #[.slice none 0 0, .int .i64 0] 49)).alloc (.cells #[.slice none 0 0, .int .i64 0] 49)) = W at c0 c1' d0 d1 r0 r1 s0 s1 p0 p1 q0 q1 hz hbel ⊢
  have hz0 : w.heap.size < W.heap.size := by omega
  have hz1 : w.heap.size + 1 < W.heap.size := by omega
  have H1W := Lib.hid (H1.out.kept hbel)
  have H2W := Lib.hid (H2.out.kept hbel)
  have hz4 : w.heap.size + 1 + 1 + 1 < W.heap.size := by omega
  have hz3 : w.heap.size + 1 + 1 < W.heap.size := by omega
  clear hz
  have hk0 : Below W.heap.size W W := Below.refl _ _
  have hmn : min (x : Int) (y : Int) = ((min x y : Nat) : Int) := by omega
  have e1 : ¬ (x : Int) < (y : Int) := by omega
  have hmx : ((min x y : Nat) : Int) = (y : Int) := by omega
  have hs1 := IntWalk.i64_in ((x : Int) - (y : Int)) (by omega)
  have hyx : (x : Int) - (y : Int) = ((x - y : Nat) : Int) := by omega
  rw [hmx] at hmn
  have HMX := Lib.hid hmx
  clear hmx
  rw [hyx] at hs1
  have HK : Hid (∀ w1, Below W.heap.size W w1 → ∀ p (av : Option Addr) cv, W.heap.size ≤ p → p < w1.heap.size → w1.cell? ⟨p, 0, none⟩ = some (.slice av (L.length + M.length) cv) → w1.cell? ⟨p, 1, none⟩ = some (.int .i64 y) → Row w1 (w.heap.size + 1 + 1 + 1 + 1) (.slice av (L.length + M.length) cv) (L ++ M) →
      Mid w p (.slice a1 L.length c1) (.int .i64 x) (.slice a2 M.length c2) (.int .i64 y) (.slice av (L.length + M.length) cv) (.int .i64 y) (L ++ M) w1) := Lib.hid (fun w1 hk p av cv hp hp2 e1 e2 hr =>
    ⟨⟨(hk.cell (p := ⟨w.heap.size, 0, none⟩) hz0).trans c0, (hk.cell (p := ⟨w.heap.size, 1, none⟩) hz0).trans c1', (hk.cell (p := ⟨w.heap.size + 1, 0, none⟩) hz1).trans d0, (hk.cell (p := ⟨w.heap.size + 1, 1, none⟩) hz1).trans d1⟩,
     ⟨(hk.cell (p := ⟨w.heap.size + 1 + 1, 0, none⟩) hz3).trans r0, (hk.cell (p := ⟨w.heap.size + 1 + 1, 1, none⟩) hz3).trans r1, (hk.cell (p := ⟨w.heap.size + 1 + 1 + 1, 0, none⟩) hz4).trans s0, (hk.cell (p := ⟨w.heap.size + 1 + 1 + 1, 1, none⟩) hz4).trans s1⟩,
     ⟨(hk.frozen (p := ⟨w.heap.size + 1 + 1, 0, none⟩) hz3).trans p0, (hk.frozen (p := ⟨w.heap.size + 1 + 1, 1, none⟩) hz3).trans p1, (hk.frozen (p := ⟨w.heap.size + 1 + 1 + 1, 0, none⟩) hz4).trans q0, (hk.frozen (p := ⟨w.heap.size + 1 + 1 + 1, 1, none⟩) hz4).trans q1⟩,
     ⟨e1, e2⟩, by omega, hp2, hr, hbel.trans (hk.mono (by omega))⟩)
  clear r0 r1 s0 s1 p0 p1 q0 q1 hbel hz3
  go_cut [6] (fun s6 wx => ∃ (p : Nat) (av : Option Addr) (cv : Nat), s6 = .pointer (some ⟨p, 0, none⟩) ∧ Hid (Mid w p (.slice a1 L.length c1) (.int .i64 x) (.slice a2 M.length c2) (.int .i64 y) (.slice av (L.length + M.length) cv) (.int .i64 y) (L ++ M) wx))
  case first =>
    go_region_held3 (fun w' => w'.cell? ⟨w.heap.size, 0, none⟩ = some (.slice a1 L.length c1) ∧ w'.cell? ⟨w.heap.size, 1, none⟩ = some (.int .i64 x) ∧ w'.cell? ⟨w.heap.size + 1, 0, none⟩ = some (.slice a2 M.length c2) ∧ w'.cell? ⟨w.heap.size + 1, 1, none⟩ = some (.int .i64 y))
      (first | go_keep | (refine ⟨?_, ?_, ?_, ?_⟩ <;> ((refine (hk0.cell ?_).trans ?_) <;> assumption)))
      (first | (go_at_call 41; refine (HJ.out W.drew H1W.out H2W.out).mono ?_; rintro e w1 ⟨v, rfl, hr, hb⟩; replace hr := hr.mono (B' := w.heap.size + 1 + 1 + 1 + 1) (show w.heap.size + 1 + 1 + 1 + 1 ≤ W.heap.size by omega); obtain ⟨av, cv, rfl⟩ := hr.lens; rw [List.length_append] at hr; have HR := Lib.hid hr; clear hr; replace hk0 : Below W.heap.size W w1 := (by first | exact grow1b hk0 hb | exact grow0b hk0 hb); clear hb; have n0 : w1.heap.size ≠ w.heap.size := (by have := hk0.size; omega); have n1 : w1.heap.size ≠ w.heap.size + 1 := (by have := hk0.size; omega); have k0 := (hk0.cell (p := ⟨w.heap.size, 0, none⟩) hz0).trans c0; have k1 := (hk0.cell (p := ⟨w.heap.size, 1, none⟩) hz0).trans c1'; have k2 := (hk0.cell (p := ⟨w.heap.size + 1, 0, none⟩) hz1).trans d0; have k3 := (hk0.cell (p := ⟨w.heap.size + 1, 1, none⟩) hz1).trans d1) | (go_at_call 41; refine (HJ.out (W.alloc (.cells #[.slice none 0 0, .int .i64 0] 49)).drew (H1W.out.alloc _) (H2W.out.alloc _)).mono ?_; rintro e w1 ⟨v, rfl, hr, hb⟩; replace hr := hr.mono (B' := W.heap.size + 1) (by simp); obtain ⟨av, cv, rfl⟩ := hr.lens; rw [List.length_append] at hr; have HR := Lib.hid hr; clear hr; replace hk0 : Below W.heap.size W w1 := (((Below.refl _ _).alloc (Nat.le_refl _) _).drew.trans (hb.mono (by simp))); have m0 : w1.cell? ⟨W.heap.size, 0, none⟩ = some (.slice none 0 0) := (by rw [hb.cell (p := ⟨W.heap.size, 0, none⟩) (by simp)]; go_simp); have m1 : w1.cell? ⟨W.heap.size, 1, none⟩ = some (.int .i64 0) := (by rw [hb.cell (p := ⟨W.heap.size, 1, none⟩) (by simp)]; go_simp); have m2 : w1.frozen? ⟨W.heap.size, 0, none⟩ = false := (by rw [hb.frozen (p := ⟨W.heap.size, 0, none⟩) (by simp)]; go_simp); have m3 : w1.frozen? ⟨W.heap.size, 1, none⟩ = false := (by rw [hb.frozen (p := ⟨W.heap.size, 1, none⟩) (by simp)]; go_simp); have hsz : W.heap.size < w1.heap.size := (by have := hb.size; simp at this; omega); clear hb; have n6 : W.heap.size ≠ w.heap.size := (by omega); have n7 : W.heap.size ≠ w.heap.size + 1 := (by omega); have k0 := (hk0.cell (p := ⟨w.heap.size, 0, none⟩) hz0).trans c0; have k1 := (hk0.cell (p := ⟨w.heap.size, 1, none⟩) hz0).trans c1'; have k2 := (hk0.cell (p := ⟨w.heap.size + 1, 0, none⟩) hz1).trans d0; have k3 := (hk0.cell (p := ⟨w.heap.size + 1, 1, none⟩) hz1).trans d1))
    all_goals
      go_wp2_with fail
      go_meet
      first
        | exact ⟨w1.heap.size, av, cv, rfl, Lib.hid (HK.out _ (hk0.alloc hk0.size _) _ av cv hk0.size (by simp) (by go_simp) (by go_simp) (HR.out.alloc _))⟩
        | (obtain ⟨y0, y1⟩ := pair_back (x := Value.slice av (L.length + M.length) cv) (y := Value.int .i64 (y : Int)) m0 m1
           exact ⟨W.heap.size, av, cv, rfl, Lib.hid (HK.out _ ((hk0.setCell (Nat.le_refl _) _).setCell (Nat.le_refl _) _) _ av cv (Nat.le_refl _) (by simpa using hsz) y0 y1 (((HR.out.setb (by omega)).setb (by omega)).mono (by omega)))⟩)
  case rest =>
    obtain ⟨p, av, cv, rfl, HM⟩ := hcut
    obtain ⟨⟨k0, k1, k2, k3⟩, ⟨r0, r1, s0, s1⟩, ⟨p0, p1, q0, q1⟩, ⟨m0, m1⟩, hp, hpz, hr, hbw⟩ := HM.out
    have HR := Lib.hid hr
    have HBW := Lib.hid hbw
    clear hr hbw HM HK
    have n1 : ¬ wc.heap.size = p := by omega
    have n2 : ¬ wc.heap.size = w.heap.size := by omega
    have n3 : ¬ wc.heap.size = w.heap.size + 1 := by omega
    have n4 : ¬ p = wc.heap.size := by omega
    have l1 : w.heap.size < wc.heap.size := by omega
    have l2 : w.heap.size + 1 < wc.heap.size := by omega
    go_wp2
    have f0 := up1 m0 (.cells #[.slice a1 L.length c1, .int .i64 (x - y : Nat)] 49)
    have f1 := up1 m1 (.cells #[.slice a1 L.length c1, .int .i64 (x - y : Nat)] 49)
    have f2 : (wc.alloc (.cells #[.slice a1 L.length c1, .int .i64 (x - y : Nat)] 49)).cell? ⟨wc.heap.size, 0, none⟩ = some (.slice a1 L.length c1) := by go_simp
    have f3 : (wc.alloc (.cells #[.slice a1 L.length c1, .int .i64 (x - y : Nat)] 49)).cell? ⟨wc.heap.size, 1, none⟩ = some (.int .i64 (x - y : Nat)) := by go_simp
    have g0 := up1 r0 (.cells #[.slice a1 L.length c1, .int .i64 (x - y : Nat)] 49)
    have g1 := up1 r1 (.cells #[.slice a1 L.length c1, .int .i64 (x - y : Nat)] 49)
    have g2 := up1 s0 (.cells #[.slice a1 L.length c1, .int .i64 (x - y : Nat)] 49)
    have g3 := up1 s1 (.cells #[.slice a1 L.length c1, .int .i64 (x - y : Nat)] 49)
    have hal := (Below.refl wc.heap.size wc).alloc (Nat.le_refl _) (.cells #[.slice a1 L.length c1, .int .i64 (x - y : Nat)] 49)
    have j0 := (hal.frozen (p := ⟨w.heap.size + 1 + 1, 0, none⟩) (show w.heap.size + 1 + 1 < _ by omega)).trans p0
    have j1 := (hal.frozen (p := ⟨w.heap.size + 1 + 1, 1, none⟩) (show w.heap.size + 1 + 1 < _ by omega)).trans p1
    have j2 := (hal.frozen (p := ⟨w.heap.size + 1 + 1 + 1, 0, none⟩) (show w.heap.size + 1 + 1 + 1 < _ by omega)).trans q0
    have j3 := (hal.frozen (p := ⟨w.heap.size + 1 + 1 + 1, 1, none⟩) (show w.heap.size + 1 + 1 + 1 < _ by omega)).trans q1
    have HR2 := Lib.hid (HR.out.alloc (.cells #[.slice a1 L.length c1, .int .i64 (x - y : Nat)] 49))
    have HB2 := Lib.hid (HBW.out.alloc HBW.out.size (.cells #[.slice a1 L.length c1, .int .i64 (x - y : Nat)] 49))
    clear hal m0 m1 r0 r1 s0 s1 p0 p1 q0 q1 k0 k1 k2 k3 HR HBW c0 c1' d0 d1
    generalize wc.alloc (.cells #[.slice a1 L.length c1, .int .i64 (x - y : Nat)] 49) = W6 at f0 f1 f2 f3 g0 g1 g2 g3 j0 j1 j2 j3 HR2 HB2 ⊢
    have n5 : ¬ p = w.heap.size + 1 + 1 := by omega
    have n6 : ¬ p = w.heap.size + 1 + 1 + 1 := by omega
    have n7 : ¬ wc.heap.size = w.heap.size + 1 + 1 := by omega
    have n8 : ¬ wc.heap.size = w.heap.size + 1 + 1 + 1 := by omega
    have n9 : ¬ w.heap.size + 1 + 1 = p := by omega
    have n10 : ¬ w.heap.size + 1 + 1 + 1 = p := by omega
    have n11 : ¬ w.heap.size + 1 + 1 = wc.heap.size := by omega
    have n12 : ¬ w.heap.size + 1 + 1 + 1 = wc.heap.size := by omega
    go_region
    all_goals
      go_wp2
      clear n1 n2 n3 n4 n5 n6 n7 n8 n9 n10 n11 n12
      obtain ⟨z0, z1, z2, z3⟩ := quad (b := w.heap.size + 1 + 1) (c := w.heap.size + 1 + 1 + 1) (.slice av (L.length + M.length) cv) (.int .i64 y) (.slice a1 L.length c1) (.int .i64 (x - y : Nat)) (by omega) g0 g1 g2 g3
      refine paired_end rfl rfl z0 z1 z2 z3 ⟨.slice av (L.length + M.length) cv, ?_, ?_, by rw [HMX.out]⟩
      · exact ((((HR2.out.setb (by omega)).setb (by omega)).setb (by omega)).setb (by omega)).mono (by omega)
      · exact ((((HB2.out.setCell (show w.heap.size ≤ w.heap.size + 1 + 1 by omega) _).setCell (show w.heap.size ≤ w.heap.size + 1 + 1 by omega) _).setCell (show w.heap.size ≤ w.heap.size + 1 + 1 + 1 by omega) _).setCell (show w.heap.size ≤ w.heap.size + 1 + 1 + 1 by omega) _).drew
end Go.Proofs.Ytahpjfdecjfpcaa
