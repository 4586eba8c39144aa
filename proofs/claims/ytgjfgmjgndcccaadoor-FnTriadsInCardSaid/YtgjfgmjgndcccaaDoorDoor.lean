/-
  What the condition on the program's table of shapes gives: its six cells; and that the program's own start-up meets the condition.
-/
import Derived.Test.YtgjfgmjgndcccaaDoorRows
import Derived.Test.YtgjfgmjgndcccaaDoorTriSet
import Derived.ProofKit
import Derived.LaidMore
import Derived.OpenShut
import Derived.Stop.Joined
import Derived.OpenVars
namespace Go.Proofs.YtgjfgmjgndcccaaDoor
open Go.ChangeShapes Go.WideShapes Go.ChangeAt Go.WideMaps Go.WideElems Go.RowKit
set_option linter.unusedVariables false

theorem doorOwn : ownKnob Tryd.prog.godebug = none := by kernel_rfl
theorem gShapes : Tryd.prog.globalNamed "loop.example/tonesincircles/impl.triadShapes" = some 0 := by kernel_rfl
theorem tShapes : (Tryd.prog.globals[0]?).map (·.type) = some 46 := by kernel_rfl
theorem doorLaidOut : laidOutB Tryd.prog = true := by kernel_rfl
theorem doorRowed : varsRowed Tryd.prog ["loop.example/tonesincircles/impl.triadShapes"] = true := by kernel_rfl
/-- the condition's list -/
def shapesLaid : List (String × DataW Unit) := [("loop.example/tonesincircles/impl.triadShapes", Rows.laid_loop_example_tonesincircles_impl_triadShapes)]
/-- the heap that the program's own start-up leaves meets the condition -/
theorem door_met (os : Os) (args : Array Value) : laidMetH Tryd.prog shapesLaid ((World.doorLaid Tryd.prog 400 os).forCall (fun _ _ => 0) ⟨#[], args, []⟩).memory :=
  laidMetH_of_parts3 (fuel := 8) (laidMet_of_run' 8 (by kernel_rfl) (by kernel_rfl)) (by kernel_rfl) (by kernel_rfl)

theorem row3 {W : World} {enc : TypeId × Value → Unit} {base : Nat} {sp : Nat → Bool} {held : Bool} {fuel : Nat} {c0 c1 c2 : Value} {x : DataW Unit × List MemPlace} {a b c : Int}
    (h : DataW.trod enc Tryd.prog W base sp held fuel 45 [c0, c1, c2] = some x) (hx : x.1 = .agg [.lit (.int .i64 a), .lit (.int .i64 b), .lit (.int .i64 c)]) :
    c0 = .int .i64 a ∧ c1 = .int .i64 b ∧ c2 = .int .i64 c := by
  obtain ⟨xs, m, rfl, rfl, _, hn, hel⟩ := DataW.trod_array Tryd.underlying45 h
  have c3 : Tryd.prog.cellsOf 3 = 1 := by kernel_rfl
  match xs, hn, hx, hel with
  | [x0, x1, x2], _, hx, hel =>
    simp only [List.map_cons, List.map_nil, DataW.agg.injEq, List.cons.injEq, and_true] at hx
    have h0 := hel 0 (by decide)
    have h1 := hel 1 (by decide)
    have h2 := hel 2 (by decide)
    rw [c3] at h0 h1 h2
    obtain ⟨n0, e0, f0, _⟩ := DataW.trod_int Tryd.underlying3 (show DataW.trod enc Tryd.prog W base sp held m 3 [c0] = some x0 from h0)
    obtain ⟨n1, e1, f1, _⟩ := DataW.trod_int Tryd.underlying3 (show DataW.trod enc Tryd.prog W base sp held m 3 [c1] = some x1 from h1)
    obtain ⟨n2, e2, f2, _⟩ := DataW.trod_int Tryd.underlying3 (show DataW.trod enc Tryd.prog W base sp held m 3 [c2] = some x2 from h2)
    rw [f0, f1, f2] at hx
    simp at hx e0 e1 e2
    obtain ⟨rfl, rfl, rfl⟩ := hx
    exact ⟨e0, e1, e2⟩

theorem shapes_of_laid {W : World} (h : laidMetH Tryd.prog shapesLaid W) : Shapes W := by
  rw [MakeChecks.laidMetH_plain _ _ _ (by kernel_rfl)] at h
  obtain ⟨ps, ⟨g0, t0, cs0, f0, p0, q0, hg0, ht0, hv0, hd0, _, _⟩, _, _⟩ := h
  obtain rfl := Option.some.inj (gShapes.symm.trans hg0)
  obtain rfl := Option.some.inj (tShapes.symm.trans ht0)
  have c39 : Tryd.prog.cellsOf 46 = 6 := by kernel_rfl
  have c38 : Tryd.prog.cellsOf 45 = 3 := by kernel_rfl
  obtain ⟨xs, m, rfl, hx, hlen, hn, hel⟩ := DataW.trod_array Tryd.underlying46 hd0
  rw [c39] at hlen
  have hcell := fun i => World.var?_cell hg0 hv0 i
  obtain ⟨l⟩ := cs0
  obtain ⟨c0, c1, c2, c3, c4, c5, rfl⟩ : ∃ c0 c1 c2 c3 c4 c5, l = [c0, c1, c2, c3, c4, c5] := by
    match l, hlen with
    | [a, b, c, d, e, f], _ => exact ⟨a, b, c, d, e, f, rfl⟩
  match xs, hn, hx, hel with
  | [x0, x1], _, hx, hel =>
    simp only [Prod.mk.injEq, Rows.laid_loop_example_tonesincircles_impl_triadShapes, List.map_cons, List.map_nil, DataW.agg.injEq, List.cons.injEq, and_true] at hx
    have h0 := hel 0 (by decide)
    have h1 := hel 1 (by decide)
    rw [c38] at h0 h1
    obtain ⟨rfl, rfl, rfl⟩ := row3 (c0 := c0) (c1 := c1) (c2 := c2) (x := x0) h0 hx.1.1.symm
    obtain ⟨rfl, rfl, rfl⟩ := row3 (c0 := c3) (c1 := c4) (c2 := c5) (x := x1) h1 hx.1.2.symm
    intro s k hs hk
    rw [hcell]
    have : (s = 0 ∨ s = 1) ∧ (k = 0 ∨ k = 1 ∨ k = 2) := ⟨by omega, by omega⟩
    obtain ⟨rfl | rfl, rfl | rfl | rfl⟩ := this <;> rfl
end Go.Proofs.YtgjfgmjgndcccaaDoor
