/-
  What the conditions on the program's two tables give: their cells; and that the program's own start-up meets the conditions.
-/
import Derived.Test.YtpcbplademohnaaDoorRows
import Derived.Test.YtpcbplademohnaaDoorExact6A
import Derived.ProofKit
import Derived.LaidMore
import Derived.OpenShut
import Derived.Stop.Joined
import Derived.OpenVars
namespace Go.Proofs.YtpcbplademohnaaDoor
open Go.ChangeShapes Go.WideShapes Go.ChangeAt Go.WideMaps Go.WideElems Go.RowKit
set_option linter.unusedVariables false
set_option maxRecDepth 20000

theorem doorOwn : ownKnob Tryd.prog.godebug = none := by kernel_rfl
theorem gPrimes : Tryd.prog.globalNamed "loop.example/tonesincircles/impl.ratioPrimes" = some 0 := by kernel_rfl
theorem tPrimes : (Tryd.prog.globals[0]?).map (·.type) = some 40 := by kernel_rfl
theorem gLimits : Tryd.prog.globalNamed "loop.example/tonesincircles/impl.maxPowers" = some 1 := by kernel_rfl
theorem tLimits : (Tryd.prog.globals[1]?).map (·.type) = some 40 := by kernel_rfl
theorem doorLaidOut : laidOutB Tryd.prog = true := by kernel_rfl
theorem doorRowedP : varsRowed Tryd.prog ["loop.example/tonesincircles/impl.ratioPrimes"] = true := by kernel_rfl
theorem doorRowedL : varsRowed Tryd.prog ["loop.example/tonesincircles/impl.maxPowers"] = true := by kernel_rfl
theorem doorRowedPL : varsRowed Tryd.prog ["loop.example/tonesincircles/impl.ratioPrimes", "loop.example/tonesincircles/impl.maxPowers"] = true := by kernel_rfl
theorem doorRowedLP : varsRowed Tryd.prog ["loop.example/tonesincircles/impl.maxPowers", "loop.example/tonesincircles/impl.ratioPrimes"] = true := by kernel_rfl
/-- the conditions' lists -/
def laidP : List (String × DataW Unit) := [("loop.example/tonesincircles/impl.ratioPrimes", Rows.laid_loop_example_tonesincircles_impl_ratioPrimes)]
def laidL : List (String × DataW Unit) := [("loop.example/tonesincircles/impl.maxPowers", Rows.laid_loop_example_tonesincircles_impl_maxPowers)]
def laidPL : List (String × DataW Unit) := [("loop.example/tonesincircles/impl.ratioPrimes", Rows.laid_loop_example_tonesincircles_impl_ratioPrimes), ("loop.example/tonesincircles/impl.maxPowers", Rows.laid_loop_example_tonesincircles_impl_maxPowers)]
/-- the heap that the program's own start-up leaves meets the conditions -/
theorem door_metP (os : Os) (args : Array Value) : laidMetH Tryd.prog laidP ((World.doorLaid Tryd.prog 400 os).forCall (fun _ _ => 0) ⟨#[], args, []⟩).memory :=
  laidMetH_of_parts3 (fuel := 8) (laidMet_of_run' 8 (by kernel_rfl) (by kernel_rfl)) (by kernel_rfl) (by kernel_rfl)
theorem door_metL (os : Os) (args : Array Value) : laidMetH Tryd.prog laidL ((World.doorLaid Tryd.prog 400 os).forCall (fun _ _ => 0) ⟨#[], args, []⟩).memory :=
  laidMetH_of_parts3 (fuel := 8) (laidMet_of_run' 8 (by kernel_rfl) (by kernel_rfl)) (by kernel_rfl) (by kernel_rfl)
theorem door_metPL (os : Os) (args : Array Value) : laidMetH Tryd.prog laidPL ((World.doorLaid Tryd.prog 400 os).forCall (fun _ _ => 0) ⟨#[], args, []⟩).memory :=
  laidMetH_of_parts3 (fuel := 8) (laidMet_of_run' 8 (by kernel_rfl) (by kernel_rfl)) (by kernel_rfl) (by kernel_rfl)

theorem row3 {W : World} {enc : TypeId × Value → Unit} {base : Nat} {sp : Nat → Bool} {held : Bool} {fuel : Nat} {cs : List Value} {x : DataW Unit × List MemPlace} {a b c : Int}
    (h : DataW.trod enc Tryd.prog W base sp held fuel 40 cs = some x) (hx : x.1 = .agg [.lit (.int .i64 a), .lit (.int .i64 b), .lit (.int .i64 c)]) :
    cs = [.int .i64 a, .int .i64 b, .int .i64 c] := by
  obtain ⟨xs, m, rfl, rfl, hlen, hn, hel⟩ := DataW.trod_array Tryd.underlying40 h
  have c3 : Tryd.prog.cellsOf 3 = 1 := by kernel_rfl
  have c43 : Tryd.prog.cellsOf 40 = 3 := by kernel_rfl
  rw [c43] at hlen
  obtain ⟨c0, c1, c2, rfl⟩ : ∃ c0 c1 c2, cs = [c0, c1, c2] := by
    match cs, hlen with
    | [a, b, c], _ => exact ⟨a, b, c, rfl⟩
  match xs, hn, hx, hel with
  | [x0, x1, x2], _, hx, hel =>
    simp only [List.map_cons, List.map_nil, DataW.agg.injEq, List.cons.injEq, and_true] at hx
    have h0 := hel 0 (by decide)
    have h1 := hel 1 (by decide)
    have h2 := hel 2 (by decide)
    rw [c3] at h0 h1 h2
    obtain ⟨n0, e0, f0, _⟩ := DataW.trod_int Tryd.underlying3 (show DataW.trod enc Tryd.prog W base sp held m 3 [c0] = some x0 from h0)
    obtain ⟨n1, e1, f1, _⟩ := DataW.trod_int Tryd.underlying3 (show DataW.trod enc Tryd.prog W base sp held m 3 [c1] = some x1 from h1)
    obtain ⟨n2, e2, f2, _⟩ := DataW.trod_int Tryd.underlying3 (show DataW.trod enc Tryd.prog W base sp held m 3 [c2] = some x2 from h2)
    rw [f0, f1, f2] at hx
    simp at hx e0 e1 e2
    obtain ⟨rfl, rfl, rfl⟩ := hx
    rw [e0, e1, e2]

theorem primes_of {W : World} {enc : TypeId × Value → Unit} {g : Nat} {t : TypeId} {cs : Array Value} {f : Nat} {d : DataW Unit} {p : List MemPlace} {sp : Nat → Bool} {held : Bool} (hg : Tryd.prog.globalNamed "loop.example/tonesincircles/impl.ratioPrimes" = some g) (ht : (Tryd.prog.globals[g]?).map (·.type) = some t)
    (hv : W.var? Tryd.prog "loop.example/tonesincircles/impl.ratioPrimes" = some cs) (hd : DataW.trod enc Tryd.prog W 0 sp held f t cs.toList = some (d, p)) (e : d = Rows.laid_loop_example_tonesincircles_impl_ratioPrimes) : Primes W := by
  obtain rfl := Option.some.inj (gPrimes.symm.trans hg)
  obtain rfl := Option.some.inj (tPrimes.symm.trans ht)
  have hcell := fun i => World.var?_cell hg hv i
  obtain ⟨l⟩ := cs
  obtain rfl := row3 hd e
  exact ⟨hcell 0, hcell 1, hcell 2⟩
theorem limits_of {W : World} {enc : TypeId × Value → Unit} {g : Nat} {t : TypeId} {cs : Array Value} {f : Nat} {d : DataW Unit} {p : List MemPlace} {sp : Nat → Bool} {held : Bool} (hg : Tryd.prog.globalNamed "loop.example/tonesincircles/impl.maxPowers" = some g) (ht : (Tryd.prog.globals[g]?).map (·.type) = some t)
    (hv : W.var? Tryd.prog "loop.example/tonesincircles/impl.maxPowers" = some cs) (hd : DataW.trod enc Tryd.prog W 0 sp held f t cs.toList = some (d, p)) (e : d = Rows.laid_loop_example_tonesincircles_impl_maxPowers) : Limits W := by
  obtain rfl := Option.some.inj (gLimits.symm.trans hg)
  obtain rfl := Option.some.inj (tLimits.symm.trans ht)
  have hcell := fun i => World.var?_cell hg hv i
  obtain ⟨l⟩ := cs
  obtain rfl := row3 hd e
  exact ⟨hcell 0, hcell 1, hcell 2⟩
theorem primes_of_laid {W : World} (h : laidMetH Tryd.prog laidP W) : Primes W := by
  rw [MakeChecks.laidMetH_plain _ _ _ (by kernel_rfl)] at h
  obtain ⟨ps, ⟨g0, t0, cs0, f0, p0, q0, hg0, ht0, hv0, hd0, _, _⟩, _, _⟩ := h
  exact primes_of hg0 ht0 hv0 hd0 rfl
theorem limits_of_laid {W : World} (h : laidMetH Tryd.prog laidL W) : Limits W := by
  rw [MakeChecks.laidMetH_plain _ _ _ (by kernel_rfl)] at h
  obtain ⟨ps, ⟨g0, t0, cs0, f0, p0, q0, hg0, ht0, hv0, hd0, _, _⟩, _, _⟩ := h
  exact limits_of hg0 ht0 hv0 hd0 rfl
theorem tabs_of_laid {W : World} (h : laidMetH Tryd.prog laidPL W) : Tabs W := by
  rw [MakeChecks.laidMetH_plain _ _ _ (by kernel_rfl)] at h
  obtain ⟨ps, ⟨g0, t0, cs0, f0, p0, q0, hg0, ht0, hv0, hd0, ⟨g1, t1, cs1, f1, p1, q1, hg1, ht1, hv1, hd1, _, _⟩, _⟩, _, _⟩ := h
  exact ⟨limits_of hg1 ht1 hv1 hd1 rfl, primes_of hg0 ht0 hv0 hd0 rfl⟩
end Go.Proofs.YtpcbplademohnaaDoor
