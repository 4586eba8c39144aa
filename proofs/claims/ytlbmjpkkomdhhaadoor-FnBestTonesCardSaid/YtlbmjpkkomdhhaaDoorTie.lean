/-
  DERIVED. GIVEN WITH THE SEED: THE PROGRAM's TIES (one call each: nine closed facts by the kernel) AND EACH ROW's TIE, after the 31st guide's Derived/Test/Toyas{Tie, Card}.lean. No idea stands in it: it is a product of the set-up. Laid BY PROGRAM, IN A SANDBOX (cutbox-door.mjs). By AI agents, Wed Nov 11 2026. No macro, syntax, notation, axiom, sorry.
-/
import Derived.Test.YtlbmjpkkomdhhaaDoorRows
import Derived.LaidByTextLater
import Derived.SevenTiedAt
import Derived.LaidSub
import Derived.LaidOnce
namespace Go.Proofs.YtlbmjpkkomdhhaaDoor
open Go
set_option maxRecDepth 100000
theorem seatTie1 : Tryd.prog.laidByTextLater [("loop.example/tonesincircles/impl.ratioPrimes", Rows.laid_loop_example_tonesincircles_impl_ratioPrimes), ("loop.example/tonesincircles/impl.maxPowers", Rows.laid_loop_example_tonesincircles_impl_maxPowers)] [.data, .data] true :=
  Program.laidByTextLater_by_one 19 8 4 (by kernel_rfl) (by kernel_rfl) (by kernel_rfl) (by kernel_rfl) (by kernel_rfl) (by kernel_rfl) (fun _ _ => by kernel_rfl)
theorem noOwnUnsafe : Tryd.pinned.checked.prog.headLifts.contains "ownunsafe" = false := by kernel_rfl
theorem tie : Tryd.prog.laidByTextLater [("loop.example/tonesincircles/impl.ratioPrimes", Rows.laid_loop_example_tonesincircles_impl_ratioPrimes), ("loop.example/tonesincircles/impl.maxPowers", Rows.laid_loop_example_tonesincircles_impl_maxPowers)] [.data, .data] true :=
  Program.laidByTextLater.sub seatTie1 ["loop.example/tonesincircles/impl.ratioPrimes", "loop.example/tonesincircles/impl.maxPowers"] (by kernel_rfl) (by kernel_rfl)
theorem fnRatioOf_row_tie : Rows.fnRatioOfRow.laidByTextAt .later Tryd.pinned [.data, .data] true :=
  OpenClaim.laidByTextAt_later rfl rfl tie noOwnUnsafe
theorem fnPowersOf_row_tie : Rows.fnPowersOfRow.laidByTextAt .later Tryd.pinned [.data, .data] true :=
  OpenClaim.laidByTextAt_later rfl rfl tie noOwnUnsafe
theorem fnIntoOctave_row_tie : Rows.fnIntoOctaveRow.laidByTextAt .later Tryd.pinned [.data, .data] true :=
  OpenClaim.laidByTextAt_later rfl rfl tie noOwnUnsafe
theorem fnFifthsOf_row_tie : Rows.fnFifthsOfRow.laidByTextAt .later Tryd.pinned [.data, .data] true :=
  OpenClaim.laidByTextAt_later rfl rfl tie noOwnUnsafe
theorem tie2 : Tryd.prog.laidByTextLater [("loop.example/tonesincircles/impl.maxPowers", Rows.laid_loop_example_tonesincircles_impl_maxPowers)] [.data] true :=
  Program.laidByTextLater.sub seatTie1 ["loop.example/tonesincircles/impl.maxPowers"] (by kernel_rfl) (by kernel_rfl)
theorem fnStepsBy_row_tie : Rows.fnStepsByRow.laidByTextAt .later Tryd.pinned [.data] true :=
  OpenClaim.laidByTextAt_later rfl rfl tie2 noOwnUnsafe
theorem tie3 : Tryd.prog.laidByTextLater [("loop.example/tonesincircles/impl.ratioPrimes", Rows.laid_loop_example_tonesincircles_impl_ratioPrimes)] [.data] true :=
  Program.laidByTextLater.sub seatTie1 ["loop.example/tonesincircles/impl.ratioPrimes"] (by kernel_rfl) (by kernel_rfl)
theorem fnLeftOf_row_tie : Rows.fnLeftOfRow.laidByTextAt .later Tryd.pinned [.data] true :=
  OpenClaim.laidByTextAt_later rfl rfl tie3 noOwnUnsafe
theorem fnBestTones_row_tie : Rows.fnBestTonesRow.laidByTextAt .later Tryd.pinned [.data] true :=
  OpenClaim.laidByTextAt_later rfl rfl tie3 noOwnUnsafe
theorem fnGapsBetween_row_tie : Rows.fnGapsBetweenRow.laidByTextAt .later Tryd.pinned [.data] true :=
  OpenClaim.laidByTextAt_later rfl rfl tie3 noOwnUnsafe
theorem fnRatioOfUpto_row_tie : Rows.fnRatioOfUptoRow.laidByTextAt .later Tryd.pinned [.data, .data] true :=
  OpenClaim.laidByTextAt_later rfl rfl tie noOwnUnsafe
theorem fnPowersOfUpto_row_tie : Rows.fnPowersOfUptoRow.laidByTextAt .later Tryd.pinned [.data, .data] true :=
  OpenClaim.laidByTextAt_later rfl rfl tie noOwnUnsafe
theorem fnIntoOctaveUpto_row_tie : Rows.fnIntoOctaveUptoRow.laidByTextAt .later Tryd.pinned [.data, .data] true :=
  OpenClaim.laidByTextAt_later rfl rfl tie noOwnUnsafe
theorem fnStepsByUpto_row_tie : Rows.fnStepsByUptoRow.laidByTextAt .later Tryd.pinned [.data] true :=
  OpenClaim.laidByTextAt_later rfl rfl tie2 noOwnUnsafe
theorem fnLeftOfUpto_row_tie : Rows.fnLeftOfUptoRow.laidByTextAt .later Tryd.pinned [.data] true :=
  OpenClaim.laidByTextAt_later rfl rfl tie3 noOwnUnsafe
theorem fnBestTonesUpto_row_tie : Rows.fnBestTonesUptoRow.laidByTextAt .later Tryd.pinned [.data] true :=
  OpenClaim.laidByTextAt_later rfl rfl tie3 noOwnUnsafe
theorem fnFifthsOfUpto_row_tie : Rows.fnFifthsOfUptoRow.laidByTextAt .later Tryd.pinned [.data, .data] true :=
  OpenClaim.laidByTextAt_later rfl rfl tie noOwnUnsafe
theorem fnGapsBetweenUpto_row_tie : Rows.fnGapsBetweenUptoRow.laidByTextAt .later Tryd.pinned [.data] true :=
  OpenClaim.laidByTextAt_later rfl rfl tie3 noOwnUnsafe
end Go.Proofs.YtlbmjpkkomdhhaaDoor
