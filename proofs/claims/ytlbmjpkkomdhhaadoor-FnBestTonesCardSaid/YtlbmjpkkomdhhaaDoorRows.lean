/-
  NARROWER THAN 'FOR EVERY INPUT', by the rows' own cells (each row's printed sentence says how): FnRatioOf: laid · FnPowersOf: laid · FnIntoOctave: laid · FnStepsBy: laid · FnLeftOf: laid · FnBestTones: laid · FnFifthsOf: laid · FnGapsBetween: laid.
  DERIVED. THE GIVEN ROWS OF THIS SEAT. 8 by the template 'for every input the law returns true; each argument reads behind the call as it read before'; 0 by the template 'total and deterministic' (their statements: YtlbmjpkkomdhhaaDoorTotals.lean).
  GIVEN WITH THE SEED: the statements are not yours to turn. If you find one false, say at which input.
  Laid BY PROGRAM, IN A SANDBOX (cutbox-rows.mjs): the forced cells as the released guide's own fill.sh prints them over the translation feb0bc110c0ca7f6… (all of the seat's roots in one cut). By AI agents, Wed Nov 11 2026. No macro, syntax, notation, axiom, sorry.
-/
import Derived.Test.YtlbmjpkkomdhhaaDoorChecked
import GoSem.Claim
import GoSem.ClaimJoined
import GoSem.ClaimMapViews
import Derived.JoinedTies
import Derived.KernelRfl
namespace Go.Proofs.YtlbmjpkkomdhhaaDoor
/- THE CELL 'sum', in the pinned program and in every row, IS THE sha256 OF THE DUMP (.gsa) THAT YtlbmjpkkomdhhaaDoorProg.lean LOADS. Nothing in Lean hashes anything: it is a label: what it is worth is what the hold of that sum in a sandbox is worth. -/
noncomputable def Tryd.pinned : Pinned := { name := "ytlbmjpkkomdhhaadoor", sum := "feb0bc110c0ca7f6290a1790c7f2452a28327c80edc935bda0ef377c3fba8a00", checked := Tryd.checked }
namespace Rows
def none {H : Type} : Left H := { results := [], args := [] }

/- WHAT THE LISTED PACKAGE-LEVEL VARIABLES READ AS WHEN THE CALL BEGINS. Each datum BY PROGRAM (the guide's laid-datum.mjs) off the statement by which the dump's own 'gosem.cut.vars' lays the variable. In a bare row this is a premise. The card (YtlbmjpkkomdhhaaDoorCards.lean) ties it to the program's text. -/
def laid_loop_example_tonesincircles_impl_ratioPrimes {H : Type} : DataW H := .agg [.lit (.int .i64 2), .lit (.int .i64 3), .lit (.int .i64 5)]
def laid_loop_example_tonesincircles_impl_maxPowers {H : Type} : DataW H := .agg [.lit (.int .i64 24), .lit (.int .i64 12), .lit (.int .i64 6)]

/-- 'laws.FnRatioOf': WHATEVER THE INPUT: true; the input reads as it did. -/
def fnRatioOfSpec : ChangeSpec := { name := "fnRatioOf", vars := ["loop.example/tonesincircles/impl.maxPowers", "loop.example/tonesincircles/impl.ratioPrimes"], fn := fun _ => fun
  | [d, g1, g2] => { results := [.lit (.bool true)], args := [d], vars := [g1, g2] }
  | _ => none }
def fnRatioOfRow : OpenClaim := { program := "ytlbmjpkkomdhhaadoor", sum := "feb0bc110c0ca7f6290a1790c7f2452a28327c80edc935bda0ef377c3fba8a00", func := "loop.example/tonesincircles/laws.FnRatioOf", spec := "fnRatioOf", named := ["loop.example/tonesincircles/impl.maxPowers", "loop.example/tonesincircles/impl.ratioPrimes"], apart := false, laid := [("loop.example/tonesincircles/impl.ratioPrimes", laid_loop_example_tonesincircles_impl_ratioPrimes), ("loop.example/tonesincircles/impl.maxPowers", laid_loop_example_tonesincircles_impl_maxPowers)] }
def FnRatioOfSaid : Prop := fnRatioOfRow.holds Tryd.pinned (OpenSpec.ofChange fnRatioOfSpec)

/-- ITS FALSE NEIGHBOUR: 'it returns false'. Refute it at one input. -/
def fnRatioOfWrong : ChangeSpec := { name := "fnRatioOf", vars := ["loop.example/tonesincircles/impl.maxPowers", "loop.example/tonesincircles/impl.ratioPrimes"], fn := fun _ => fun
  | [d, g1, g2] => { results := [.lit (.bool false)], args := [d], vars := [g1, g2] }
  | _ => none }
def FnRatioOfWrongFalsely : Prop := fnRatioOfRow.holds Tryd.pinned (OpenSpec.ofChange fnRatioOfWrong)

/-- 'laws.FnPowersOf': WHATEVER THE INPUT: true; the input reads as it did. -/
def fnPowersOfSpec : ChangeSpec := { name := "fnPowersOf", vars := ["loop.example/tonesincircles/impl.ratioPrimes", "loop.example/tonesincircles/impl.maxPowers"], fn := fun _ => fun
  | [d, g1, g2] => { results := [.lit (.bool true)], args := [d], vars := [g1, g2] }
  | _ => none }
def fnPowersOfRow : OpenClaim := { program := "ytlbmjpkkomdhhaadoor", sum := "feb0bc110c0ca7f6290a1790c7f2452a28327c80edc935bda0ef377c3fba8a00", func := "loop.example/tonesincircles/laws.FnPowersOf", spec := "fnPowersOf", named := ["loop.example/tonesincircles/impl.ratioPrimes", "loop.example/tonesincircles/impl.maxPowers"], apart := false, laid := [("loop.example/tonesincircles/impl.ratioPrimes", laid_loop_example_tonesincircles_impl_ratioPrimes), ("loop.example/tonesincircles/impl.maxPowers", laid_loop_example_tonesincircles_impl_maxPowers)] }
def FnPowersOfSaid : Prop := fnPowersOfRow.holds Tryd.pinned (OpenSpec.ofChange fnPowersOfSpec)

/-- ITS FALSE NEIGHBOUR: 'it returns false'. Refute it at one input. -/
def fnPowersOfWrong : ChangeSpec := { name := "fnPowersOf", vars := ["loop.example/tonesincircles/impl.ratioPrimes", "loop.example/tonesincircles/impl.maxPowers"], fn := fun _ => fun
  | [d, g1, g2] => { results := [.lit (.bool false)], args := [d], vars := [g1, g2] }
  | _ => none }
def FnPowersOfWrongFalsely : Prop := fnPowersOfRow.holds Tryd.pinned (OpenSpec.ofChange fnPowersOfWrong)

/-- 'laws.FnIntoOctave': WHATEVER THE INPUT: true; the input reads as it did. -/
def fnIntoOctaveSpec : ChangeSpec := { name := "fnIntoOctave", vars := ["loop.example/tonesincircles/impl.maxPowers", "loop.example/tonesincircles/impl.ratioPrimes"], fn := fun _ => fun
  | [d, g1, g2] => { results := [.lit (.bool true)], args := [d], vars := [g1, g2] }
  | _ => none }
def fnIntoOctaveRow : OpenClaim := { program := "ytlbmjpkkomdhhaadoor", sum := "feb0bc110c0ca7f6290a1790c7f2452a28327c80edc935bda0ef377c3fba8a00", func := "loop.example/tonesincircles/laws.FnIntoOctave", spec := "fnIntoOctave", named := ["loop.example/tonesincircles/impl.maxPowers", "loop.example/tonesincircles/impl.ratioPrimes"], apart := false, laid := [("loop.example/tonesincircles/impl.ratioPrimes", laid_loop_example_tonesincircles_impl_ratioPrimes), ("loop.example/tonesincircles/impl.maxPowers", laid_loop_example_tonesincircles_impl_maxPowers)] }
def FnIntoOctaveSaid : Prop := fnIntoOctaveRow.holds Tryd.pinned (OpenSpec.ofChange fnIntoOctaveSpec)

/-- ITS FALSE NEIGHBOUR: 'it returns false'. Refute it at one input. -/
def fnIntoOctaveWrong : ChangeSpec := { name := "fnIntoOctave", vars := ["loop.example/tonesincircles/impl.maxPowers", "loop.example/tonesincircles/impl.ratioPrimes"], fn := fun _ => fun
  | [d, g1, g2] => { results := [.lit (.bool false)], args := [d], vars := [g1, g2] }
  | _ => none }
def FnIntoOctaveWrongFalsely : Prop := fnIntoOctaveRow.holds Tryd.pinned (OpenSpec.ofChange fnIntoOctaveWrong)

/-- 'laws.FnStepsBy': WHATEVER THE INPUT: true; the input reads as it did. -/
def fnStepsBySpec : ChangeSpec := { name := "fnStepsBy", vars := ["loop.example/tonesincircles/impl.maxPowers"], fn := fun _ => fun
  | [d, g1] => { results := [.lit (.bool true)], args := [d], vars := [g1] }
  | _ => none }
def fnStepsByRow : OpenClaim := { program := "ytlbmjpkkomdhhaadoor", sum := "feb0bc110c0ca7f6290a1790c7f2452a28327c80edc935bda0ef377c3fba8a00", func := "loop.example/tonesincircles/laws.FnStepsBy", spec := "fnStepsBy", named := ["loop.example/tonesincircles/impl.maxPowers"], apart := false, laid := [("loop.example/tonesincircles/impl.maxPowers", laid_loop_example_tonesincircles_impl_maxPowers)] }
def FnStepsBySaid : Prop := fnStepsByRow.holds Tryd.pinned (OpenSpec.ofChange fnStepsBySpec)

/-- ITS FALSE NEIGHBOUR: 'it returns false'. Refute it at one input. -/
def fnStepsByWrong : ChangeSpec := { name := "fnStepsBy", vars := ["loop.example/tonesincircles/impl.maxPowers"], fn := fun _ => fun
  | [d, g1] => { results := [.lit (.bool false)], args := [d], vars := [g1] }
  | _ => none }
def FnStepsByWrongFalsely : Prop := fnStepsByRow.holds Tryd.pinned (OpenSpec.ofChange fnStepsByWrong)

/-- 'laws.FnLeftOf': WHATEVER THE INPUT: true; the input reads as it did. -/
def fnLeftOfSpec : ChangeSpec := { name := "fnLeftOf", vars := ["loop.example/tonesincircles/impl.ratioPrimes"], fn := fun _ => fun
  | [d, g1] => { results := [.lit (.bool true)], args := [d], vars := [g1] }
  | _ => none }
def fnLeftOfRow : OpenClaim := { program := "ytlbmjpkkomdhhaadoor", sum := "feb0bc110c0ca7f6290a1790c7f2452a28327c80edc935bda0ef377c3fba8a00", func := "loop.example/tonesincircles/laws.FnLeftOf", spec := "fnLeftOf", named := ["loop.example/tonesincircles/impl.ratioPrimes"], apart := false, laid := [("loop.example/tonesincircles/impl.ratioPrimes", laid_loop_example_tonesincircles_impl_ratioPrimes)] }
def FnLeftOfSaid : Prop := fnLeftOfRow.holds Tryd.pinned (OpenSpec.ofChange fnLeftOfSpec)

/-- ITS FALSE NEIGHBOUR: 'it returns false'. Refute it at one input. -/
def fnLeftOfWrong : ChangeSpec := { name := "fnLeftOf", vars := ["loop.example/tonesincircles/impl.ratioPrimes"], fn := fun _ => fun
  | [d, g1] => { results := [.lit (.bool false)], args := [d], vars := [g1] }
  | _ => none }
def FnLeftOfWrongFalsely : Prop := fnLeftOfRow.holds Tryd.pinned (OpenSpec.ofChange fnLeftOfWrong)

/-- 'laws.FnBestTones': WHATEVER THE INPUT: true; the input reads as it did. -/
def fnBestTonesSpec : ChangeSpec := { name := "fnBestTones", vars := ["loop.example/tonesincircles/impl.ratioPrimes"], fn := fun _ => fun
  | [d, g1] => { results := [.lit (.bool true)], args := [d], vars := [g1] }
  | _ => none }
def fnBestTonesRow : OpenClaim := { program := "ytlbmjpkkomdhhaadoor", sum := "feb0bc110c0ca7f6290a1790c7f2452a28327c80edc935bda0ef377c3fba8a00", func := "loop.example/tonesincircles/laws.FnBestTones", spec := "fnBestTones", named := ["loop.example/tonesincircles/impl.ratioPrimes"], apart := false, laid := [("loop.example/tonesincircles/impl.ratioPrimes", laid_loop_example_tonesincircles_impl_ratioPrimes)] }
def FnBestTonesSaid : Prop := fnBestTonesRow.holds Tryd.pinned (OpenSpec.ofChange fnBestTonesSpec)

/-- ITS FALSE NEIGHBOUR: 'it returns false'. Refute it at one input. -/
def fnBestTonesWrong : ChangeSpec := { name := "fnBestTones", vars := ["loop.example/tonesincircles/impl.ratioPrimes"], fn := fun _ => fun
  | [d, g1] => { results := [.lit (.bool false)], args := [d], vars := [g1] }
  | _ => none }
def FnBestTonesWrongFalsely : Prop := fnBestTonesRow.holds Tryd.pinned (OpenSpec.ofChange fnBestTonesWrong)

/-- 'laws.FnFifthsOf': WHATEVER THE INPUT: true; the input reads as it did. -/
def fnFifthsOfSpec : ChangeSpec := { name := "fnFifthsOf", vars := ["loop.example/tonesincircles/impl.ratioPrimes", "loop.example/tonesincircles/impl.maxPowers"], fn := fun _ => fun
  | [d, g1, g2] => { results := [.lit (.bool true)], args := [d], vars := [g1, g2] }
  | _ => none }
def fnFifthsOfRow : OpenClaim := { program := "ytlbmjpkkomdhhaadoor", sum := "feb0bc110c0ca7f6290a1790c7f2452a28327c80edc935bda0ef377c3fba8a00", func := "loop.example/tonesincircles/laws.FnFifthsOf", spec := "fnFifthsOf", unfollowed := true, recurses := true, named := ["loop.example/tonesincircles/impl.ratioPrimes", "loop.example/tonesincircles/impl.maxPowers"], apart := false, laid := [("loop.example/tonesincircles/impl.ratioPrimes", laid_loop_example_tonesincircles_impl_ratioPrimes), ("loop.example/tonesincircles/impl.maxPowers", laid_loop_example_tonesincircles_impl_maxPowers)] }
def FnFifthsOfSaid : Prop := fnFifthsOfRow.holds Tryd.pinned (OpenSpec.ofChange fnFifthsOfSpec)

/-- ITS FALSE NEIGHBOUR: 'it returns false'. Refute it at one input. -/
def fnFifthsOfWrong : ChangeSpec := { name := "fnFifthsOf", vars := ["loop.example/tonesincircles/impl.ratioPrimes", "loop.example/tonesincircles/impl.maxPowers"], fn := fun _ => fun
  | [d, g1, g2] => { results := [.lit (.bool false)], args := [d], vars := [g1, g2] }
  | _ => none }
def FnFifthsOfWrongFalsely : Prop := fnFifthsOfRow.holds Tryd.pinned (OpenSpec.ofChange fnFifthsOfWrong)

/-- 'laws.FnGapsBetween': WHATEVER THE INPUT: true; the input reads as it did. -/
def fnGapsBetweenSpec : ChangeSpec := { name := "fnGapsBetween", vars := ["loop.example/tonesincircles/impl.ratioPrimes"], fn := fun _ => fun
  | [d, g1] => { results := [.lit (.bool true)], args := [d], vars := [g1] }
  | _ => none }
def fnGapsBetweenRow : OpenClaim := { program := "ytlbmjpkkomdhhaadoor", sum := "feb0bc110c0ca7f6290a1790c7f2452a28327c80edc935bda0ef377c3fba8a00", func := "loop.example/tonesincircles/laws.FnGapsBetween", spec := "fnGapsBetween", unfollowed := true, recurses := true, named := ["loop.example/tonesincircles/impl.ratioPrimes"], apart := false, laid := [("loop.example/tonesincircles/impl.ratioPrimes", laid_loop_example_tonesincircles_impl_ratioPrimes)] }
def FnGapsBetweenSaid : Prop := fnGapsBetweenRow.holds Tryd.pinned (OpenSpec.ofChange fnGapsBetweenSpec)

/-- ITS FALSE NEIGHBOUR: 'it returns false'. Refute it at one input. -/
def fnGapsBetweenWrong : ChangeSpec := { name := "fnGapsBetween", vars := ["loop.example/tonesincircles/impl.ratioPrimes"], fn := fun _ => fun
  | [d, g1] => { results := [.lit (.bool false)], args := [d], vars := [g1] }
  | _ => none }
def FnGapsBetweenWrongFalsely : Prop := fnGapsBetweenRow.holds Tryd.pinned (OpenSpec.ofChange fnGapsBetweenWrong)

/- THE SECOND FORM. 'bulk': how many values and letters a reading holds, each counted each time it is reached (what is shared counts as often as it is met; a slice's spare places count too). A statement '..UptoSaid' is the law's where the arguments, and the package variables that the reading takes, are together of bulk at most 1048576: NARROWER than '..Said'. Prove '..Said' where nothing that the law and all that it calls make is longer than what came in: it says more and counts as full. Else prove '..UptoSaid'. A law counts once. -/
mutual
def uptoBulk {H : Type} : DataW H → Nat
  | .lit (.string bytes) => bytes.length + 1
  | .lit _ => 1
  | .nil => 1
  | .ptr d => uptoBulk d + 1
  | .slice elems spare => uptoBulkAll elems + uptoBulkAll spare + 1
  | .agg parts => uptoBulkAll parts + 1
  | .iface _ d => uptoBulk d + 1
  | .map entries => uptoBulkEntries entries + 1
  | .held _ => 1
def uptoBulkAll {H : Type} : List (DataW H) → Nat
  | [] => 0
  | d :: r => uptoBulk d + uptoBulkAll r
def uptoBulkEntries {H : Type} : List (Lit × DataW H) → Nat
  | [] => 0
  | x :: r => uptoBulkEntry x + uptoBulkEntries r
def uptoBulkEntry {H : Type} : Lit × DataW H → Nat
  | (.string bytes, d) => bytes.length + uptoBulk d + 1
  | (_, d) => uptoBulk d + 1
 end
def uptoSmall : (H : Type) → List (DataW H) → Bool := fun _ ds => decide (uptoBulkAll ds ≤ 1048576)
def OpenSpec.upto (s : _root_.Go.ChangeSpec) : _root_.Go.OpenSpec := { _root_.Go.OpenSpec.ofChange s with cond := some uptoSmall }

/-- 'laws.FnRatioOf', WHERE WHAT IT READS IS OF BULK AT MOST 1048576: true; the input reads as it did. -/
def fnRatioOfUptoRow : OpenClaim := { program := "ytlbmjpkkomdhhaadoor", sum := "feb0bc110c0ca7f6290a1790c7f2452a28327c80edc935bda0ef377c3fba8a00", func := "loop.example/tonesincircles/laws.FnRatioOf", spec := "fnRatioOf", named := ["loop.example/tonesincircles/impl.maxPowers", "loop.example/tonesincircles/impl.ratioPrimes"], apart := false, laid := [("loop.example/tonesincircles/impl.ratioPrimes", laid_loop_example_tonesincircles_impl_ratioPrimes), ("loop.example/tonesincircles/impl.maxPowers", laid_loop_example_tonesincircles_impl_maxPowers)], narrowed := true }
def FnRatioOfUptoSaid : Prop := fnRatioOfUptoRow.holds Tryd.pinned (OpenSpec.upto fnRatioOfSpec)

/-- 'laws.FnPowersOf', WHERE WHAT IT READS IS OF BULK AT MOST 1048576: true; the input reads as it did. -/
def fnPowersOfUptoRow : OpenClaim := { program := "ytlbmjpkkomdhhaadoor", sum := "feb0bc110c0ca7f6290a1790c7f2452a28327c80edc935bda0ef377c3fba8a00", func := "loop.example/tonesincircles/laws.FnPowersOf", spec := "fnPowersOf", named := ["loop.example/tonesincircles/impl.ratioPrimes", "loop.example/tonesincircles/impl.maxPowers"], apart := false, laid := [("loop.example/tonesincircles/impl.ratioPrimes", laid_loop_example_tonesincircles_impl_ratioPrimes), ("loop.example/tonesincircles/impl.maxPowers", laid_loop_example_tonesincircles_impl_maxPowers)], narrowed := true }
def FnPowersOfUptoSaid : Prop := fnPowersOfUptoRow.holds Tryd.pinned (OpenSpec.upto fnPowersOfSpec)

/-- 'laws.FnIntoOctave', WHERE WHAT IT READS IS OF BULK AT MOST 1048576: true; the input reads as it did. -/
def fnIntoOctaveUptoRow : OpenClaim := { program := "ytlbmjpkkomdhhaadoor", sum := "feb0bc110c0ca7f6290a1790c7f2452a28327c80edc935bda0ef377c3fba8a00", func := "loop.example/tonesincircles/laws.FnIntoOctave", spec := "fnIntoOctave", named := ["loop.example/tonesincircles/impl.maxPowers", "loop.example/tonesincircles/impl.ratioPrimes"], apart := false, laid := [("loop.example/tonesincircles/impl.ratioPrimes", laid_loop_example_tonesincircles_impl_ratioPrimes), ("loop.example/tonesincircles/impl.maxPowers", laid_loop_example_tonesincircles_impl_maxPowers)], narrowed := true }
def FnIntoOctaveUptoSaid : Prop := fnIntoOctaveUptoRow.holds Tryd.pinned (OpenSpec.upto fnIntoOctaveSpec)

/-- 'laws.FnStepsBy', WHERE WHAT IT READS IS OF BULK AT MOST 1048576: true; the input reads as it did. -/
def fnStepsByUptoRow : OpenClaim := { program := "ytlbmjpkkomdhhaadoor", sum := "feb0bc110c0ca7f6290a1790c7f2452a28327c80edc935bda0ef377c3fba8a00", func := "loop.example/tonesincircles/laws.FnStepsBy", spec := "fnStepsBy", named := ["loop.example/tonesincircles/impl.maxPowers"], apart := false, laid := [("loop.example/tonesincircles/impl.maxPowers", laid_loop_example_tonesincircles_impl_maxPowers)], narrowed := true }
def FnStepsByUptoSaid : Prop := fnStepsByUptoRow.holds Tryd.pinned (OpenSpec.upto fnStepsBySpec)

/-- 'laws.FnLeftOf', WHERE WHAT IT READS IS OF BULK AT MOST 1048576: true; the input reads as it did. -/
def fnLeftOfUptoRow : OpenClaim := { program := "ytlbmjpkkomdhhaadoor", sum := "feb0bc110c0ca7f6290a1790c7f2452a28327c80edc935bda0ef377c3fba8a00", func := "loop.example/tonesincircles/laws.FnLeftOf", spec := "fnLeftOf", named := ["loop.example/tonesincircles/impl.ratioPrimes"], apart := false, laid := [("loop.example/tonesincircles/impl.ratioPrimes", laid_loop_example_tonesincircles_impl_ratioPrimes)], narrowed := true }
def FnLeftOfUptoSaid : Prop := fnLeftOfUptoRow.holds Tryd.pinned (OpenSpec.upto fnLeftOfSpec)

/-- 'laws.FnBestTones', WHERE WHAT IT READS IS OF BULK AT MOST 1048576: true; the input reads as it did. -/
def fnBestTonesUptoRow : OpenClaim := { program := "ytlbmjpkkomdhhaadoor", sum := "feb0bc110c0ca7f6290a1790c7f2452a28327c80edc935bda0ef377c3fba8a00", func := "loop.example/tonesincircles/laws.FnBestTones", spec := "fnBestTones", named := ["loop.example/tonesincircles/impl.ratioPrimes"], apart := false, laid := [("loop.example/tonesincircles/impl.ratioPrimes", laid_loop_example_tonesincircles_impl_ratioPrimes)], narrowed := true }
def FnBestTonesUptoSaid : Prop := fnBestTonesUptoRow.holds Tryd.pinned (OpenSpec.upto fnBestTonesSpec)

/-- 'laws.FnFifthsOf', WHERE WHAT IT READS IS OF BULK AT MOST 1048576: true; the input reads as it did. -/
def fnFifthsOfUptoRow : OpenClaim := { program := "ytlbmjpkkomdhhaadoor", sum := "feb0bc110c0ca7f6290a1790c7f2452a28327c80edc935bda0ef377c3fba8a00", func := "loop.example/tonesincircles/laws.FnFifthsOf", spec := "fnFifthsOf", unfollowed := true, recurses := true, named := ["loop.example/tonesincircles/impl.ratioPrimes", "loop.example/tonesincircles/impl.maxPowers"], apart := false, laid := [("loop.example/tonesincircles/impl.ratioPrimes", laid_loop_example_tonesincircles_impl_ratioPrimes), ("loop.example/tonesincircles/impl.maxPowers", laid_loop_example_tonesincircles_impl_maxPowers)], narrowed := true }
def FnFifthsOfUptoSaid : Prop := fnFifthsOfUptoRow.holds Tryd.pinned (OpenSpec.upto fnFifthsOfSpec)

/-- 'laws.FnGapsBetween', WHERE WHAT IT READS IS OF BULK AT MOST 1048576: true; the input reads as it did. -/
def fnGapsBetweenUptoRow : OpenClaim := { program := "ytlbmjpkkomdhhaadoor", sum := "feb0bc110c0ca7f6290a1790c7f2452a28327c80edc935bda0ef377c3fba8a00", func := "loop.example/tonesincircles/laws.FnGapsBetween", spec := "fnGapsBetween", unfollowed := true, recurses := true, named := ["loop.example/tonesincircles/impl.ratioPrimes"], apart := false, laid := [("loop.example/tonesincircles/impl.ratioPrimes", laid_loop_example_tonesincircles_impl_ratioPrimes)], narrowed := true }
def FnGapsBetweenUptoSaid : Prop := fnGapsBetweenUptoRow.holds Tryd.pinned (OpenSpec.upto fnGapsBetweenSpec)

end Rows
end Go.Proofs.YtlbmjpkkomdhhaaDoor
