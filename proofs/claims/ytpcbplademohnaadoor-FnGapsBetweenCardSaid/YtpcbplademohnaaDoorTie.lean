/-
  DERIVED. GIVEN WITH THE SEED: THE PROGRAM's TIES (one call each: nine closed facts by the kernel) AND EACH ROW's TIE, after the 31st guide's Derived/Test/Toyas{Tie, Card}.lean. No idea stands in it: it is a product of the set-up. Laid BY PROGRAM, IN A SANDBOX (cutbox-door.mjs). By AI agents, Wed Nov 11 2026. No macro, syntax, notation, axiom, sorry.
-/
import Derived.Test.YtpcbplademohnaaDoorRows
import Derived.LaidByTextLater
import Derived.SevenTiedAt
import Derived.LaidSub
import Derived.LaidOnce
namespace Go.Proofs.YtpcbplademohnaaDoor
open Go
set_option maxRecDepth 100000
theorem seatTie1 : Tryd.prog.laidByTextLater [("loop.example/tonesincircles/impl.ratioPrimes", Rows.laid_loop_example_tonesincircles_impl_ratioPrimes), ("loop.example/tonesincircles/impl.maxPowers", Rows.laid_loop_example_tonesincircles_impl_maxPowers)] [.data, .data] true :=
  Program.laidByTextLater_by_one 19 8 4 (by kernel_rfl) (by kernel_rfl) (by kernel_rfl) (by kernel_rfl) (by kernel_rfl) (by kernel_rfl) (fun _ _ => by kernel_rfl)
theorem noOwnUnsafe : Tryd.pinned.checked.prog.headLifts.contains "ownunsafe" = false := by kernel_rfl
theorem tie : Tryd.prog.laidByTextLater [("loop.example/tonesincircles/impl.ratioPrimes", Rows.laid_loop_example_tonesincircles_impl_ratioPrimes)] [.data] true :=
  Program.laidByTextLater.sub seatTie1 ["loop.example/tonesincircles/impl.ratioPrimes"] (by kernel_rfl) (by kernel_rfl)
theorem fnExactFifthsOf_row_tie : Rows.fnExactFifthsOfRow.laidByTextAt .later Tryd.pinned [.data] true :=
  OpenClaim.laidByTextAt_later rfl rfl tie noOwnUnsafe
theorem fnExactGapsBetween_row_tie : Rows.fnExactGapsBetweenRow.laidByTextAt .later Tryd.pinned [.data] true :=
  OpenClaim.laidByTextAt_later rfl rfl tie noOwnUnsafe
theorem fnGapsBetween_row_tie : Rows.fnGapsBetweenRow.laidByTextAt .later Tryd.pinned [.data] true :=
  OpenClaim.laidByTextAt_later rfl rfl tie noOwnUnsafe
theorem tie2 : Tryd.prog.laidByTextLater [("loop.example/tonesincircles/impl.ratioPrimes", Rows.laid_loop_example_tonesincircles_impl_ratioPrimes), ("loop.example/tonesincircles/impl.maxPowers", Rows.laid_loop_example_tonesincircles_impl_maxPowers)] [.data, .data] true :=
  Program.laidByTextLater.sub seatTie1 ["loop.example/tonesincircles/impl.ratioPrimes", "loop.example/tonesincircles/impl.maxPowers"] (by kernel_rfl) (by kernel_rfl)
theorem fnFifthsOf_row_tie : Rows.fnFifthsOfRow.laidByTextAt .later Tryd.pinned [.data, .data] true :=
  OpenClaim.laidByTextAt_later rfl rfl tie2 noOwnUnsafe
theorem fnExactFifthsOfUpto_row_tie : Rows.fnExactFifthsOfUptoRow.laidByTextAt .later Tryd.pinned [.data] true :=
  OpenClaim.laidByTextAt_later rfl rfl tie noOwnUnsafe
theorem fnExactGapsBetweenUpto_row_tie : Rows.fnExactGapsBetweenUptoRow.laidByTextAt .later Tryd.pinned [.data] true :=
  OpenClaim.laidByTextAt_later rfl rfl tie noOwnUnsafe
theorem fnFifthsOfUpto_row_tie : Rows.fnFifthsOfUptoRow.laidByTextAt .later Tryd.pinned [.data, .data] true :=
  OpenClaim.laidByTextAt_later rfl rfl tie2 noOwnUnsafe
theorem fnGapsBetweenUpto_row_tie : Rows.fnGapsBetweenUptoRow.laidByTextAt .later Tryd.pinned [.data] true :=
  OpenClaim.laidByTextAt_later rfl rfl tie noOwnUnsafe
end Go.Proofs.YtpcbplademohnaaDoor
