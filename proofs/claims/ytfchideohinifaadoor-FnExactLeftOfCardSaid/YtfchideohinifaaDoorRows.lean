/-
  NARROWER THAN 'FOR EVERY INPUT', by the rows' own cells (each row's printed sentence says how): FnExactRatioOf: laid · FnExactPowersOf: laid · FnExactIntoOctave: laid · FnExactStepsBy: laid · FnExactLeftOf: laid · FnExactBestTones: laid · FnExactFifthsOf: laid · FnExactGapsBetween: laid.
  DERIVED. THE GIVEN ROWS OF THIS SEAT. 8 by the template 'for every input the law returns true; each argument reads behind the call as it read before'; 0 by the template 'total and deterministic' (their statements: YtfchideohinifaaDoorTotals.lean).
  GIVEN WITH THE SEED: the statements are not yours to turn. If you find one false, say at which input.
  Laid BY PROGRAM, IN A SANDBOX (cutbox-rows.mjs): the forced cells as the released guide's own fill.sh prints them over the translation 8ebae095439cf78e… (all of the seat's roots in one cut). By AI agents, Wed Nov 11 2026. No macro, syntax, notation, axiom, sorry.
-/
import Derived.Test.YtfchideohinifaaDoorChecked
import GoSem.Claim
import GoSem.ClaimJoined
import GoSem.ClaimMapViews
import Derived.JoinedTies
import Derived.KernelRfl
namespace Go.Proofs.YtfchideohinifaaDoor
/- THE CELL 'sum', in the pinned program and in every row, IS THE sha256 OF THE DUMP (.gsa) THAT YtfchideohinifaaDoorProg.lean LOADS. Nothing in Lean hashes anything: it is a label: what it is worth is what the hold of that sum in a sandbox is worth. -/
noncomputable def Tryd.pinned : Pinned := { name := "ytfchideohinifaadoor", sum := "8ebae095439cf78eb896a10b41e8dd6de372ce82b4700ec05cb35563cda34bbb", checked := Tryd.checked }
namespace Rows
def none {H : Type} : Left H := { results := [], args := [] }

/- WHAT THE LISTED PACKAGE-LEVEL VARIABLES READ AS WHEN THE CALL BEGINS. Each datum BY PROGRAM (the guide's laid-datum.mjs) off the statement by which the dump's own 'gosem.cut.vars' lays the variable. In a bare row this is a premise. The card (YtfchideohinifaaDoorCards.lean) ties it to the program's text. -/
def laid_loop_example_tonesincircles_impl_ratioPrimes {H : Type} : DataW H := .agg [.lit (.int .i64 2), .lit (.int .i64 3), .lit (.int .i64 5)]
def laid_loop_example_tonesincircles_impl_maxPowers {H : Type} : DataW H := .agg [.lit (.int .i64 24), .lit (.int .i64 12), .lit (.int .i64 6)]

/-- 'laws.FnExactRatioOf': WHATEVER THE INPUT: true; the input reads as it did. -/
def fnExactRatioOfSpec : ChangeSpec := { name := "fnExactRatioOf", vars := ["loop.example/tonesincircles/impl.maxPowers", "loop.example/tonesincircles/impl.ratioPrimes"], fn := fun _ => fun
  | [d, g1, g2] => { results := [.lit (.bool true)], args := [d], vars := [g1, g2] }
  | _ => none }
def fnExactRatioOfRow : OpenClaim := { program := "ytfchideohinifaadoor", sum := "8ebae095439cf78eb896a10b41e8dd6de372ce82b4700ec05cb35563cda34bbb", func := "loop.example/tonesincircles/laws.FnExactRatioOf", spec := "fnExactRatioOf", named := ["loop.example/tonesincircles/impl.maxPowers", "loop.example/tonesincircles/impl.ratioPrimes"], apart := false, laid := [("loop.example/tonesincircles/impl.ratioPrimes", laid_loop_example_tonesincircles_impl_ratioPrimes), ("loop.example/tonesincircles/impl.maxPowers", laid_loop_example_tonesincircles_impl_maxPowers)] }
def FnExactRatioOfSaid : Prop := fnExactRatioOfRow.holds Tryd.pinned (OpenSpec.ofChange fnExactRatioOfSpec)

/-- ITS FALSE NEIGHBOUR: 'it returns false'. Refute it at one input. -/
def fnExactRatioOfWrong : ChangeSpec := { name := "fnExactRatioOf", vars := ["loop.example/tonesincircles/impl.maxPowers", "loop.example/tonesincircles/impl.ratioPrimes"], fn := fun _ => fun
  | [d, g1, g2] => { results := [.lit (.bool false)], args := [d], vars := [g1, g2] }
  | _ => none }
def FnExactRatioOfWrongFalsely : Prop := fnExactRatioOfRow.holds Tryd.pinned (OpenSpec.ofChange fnExactRatioOfWrong)

/-- 'laws.FnExactPowersOf': WHATEVER THE INPUT: true; the input reads as it did. -/
def fnExactPowersOfSpec : ChangeSpec := { name := "fnExactPowersOf", vars := ["loop.example/tonesincircles/impl.ratioPrimes", "loop.example/tonesincircles/impl.maxPowers"], fn := fun _ => fun
  | [d1, d2, g1, g2] => { results := [.lit (.bool true)], args := [d1, d2], vars := [g1, g2] }
  | _ => none }
def fnExactPowersOfRow : OpenClaim := { program := "ytfchideohinifaadoor", sum := "8ebae095439cf78eb896a10b41e8dd6de372ce82b4700ec05cb35563cda34bbb", func := "loop.example/tonesincircles/laws.FnExactPowersOf", spec := "fnExactPowersOf", named := ["loop.example/tonesincircles/impl.ratioPrimes", "loop.example/tonesincircles/impl.maxPowers"], apart := false, laid := [("loop.example/tonesincircles/impl.ratioPrimes", laid_loop_example_tonesincircles_impl_ratioPrimes), ("loop.example/tonesincircles/impl.maxPowers", laid_loop_example_tonesincircles_impl_maxPowers)] }
def FnExactPowersOfSaid : Prop := fnExactPowersOfRow.holds Tryd.pinned (OpenSpec.ofChange fnExactPowersOfSpec)

/-- ITS FALSE NEIGHBOUR: 'it returns false'. Refute it at one input. -/
def fnExactPowersOfWrong : ChangeSpec := { name := "fnExactPowersOf", vars := ["loop.example/tonesincircles/impl.ratioPrimes", "loop.example/tonesincircles/impl.maxPowers"], fn := fun _ => fun
  | [d1, d2, g1, g2] => { results := [.lit (.bool false)], args := [d1, d2], vars := [g1, g2] }
  | _ => none }
def FnExactPowersOfWrongFalsely : Prop := fnExactPowersOfRow.holds Tryd.pinned (OpenSpec.ofChange fnExactPowersOfWrong)

/-- 'laws.FnExactIntoOctave': WHATEVER THE INPUT: true; the input reads as it did. -/
def fnExactIntoOctaveSpec : ChangeSpec := { name := "fnExactIntoOctave", vars := ["loop.example/tonesincircles/impl.maxPowers", "loop.example/tonesincircles/impl.ratioPrimes"], fn := fun _ => fun
  | [d, g1, g2] => { results := [.lit (.bool true)], args := [d], vars := [g1, g2] }
  | _ => none }
def fnExactIntoOctaveRow : OpenClaim := { program := "ytfchideohinifaadoor", sum := "8ebae095439cf78eb896a10b41e8dd6de372ce82b4700ec05cb35563cda34bbb", func := "loop.example/tonesincircles/laws.FnExactIntoOctave", spec := "fnExactIntoOctave", named := ["loop.example/tonesincircles/impl.maxPowers", "loop.example/tonesincircles/impl.ratioPrimes"], apart := false, laid := [("loop.example/tonesincircles/impl.ratioPrimes", laid_loop_example_tonesincircles_impl_ratioPrimes), ("loop.example/tonesincircles/impl.maxPowers", laid_loop_example_tonesincircles_impl_maxPowers)] }
def FnExactIntoOctaveSaid : Prop := fnExactIntoOctaveRow.holds Tryd.pinned (OpenSpec.ofChange fnExactIntoOctaveSpec)

/-- ITS FALSE NEIGHBOUR: 'it returns false'. Refute it at one input. -/
def fnExactIntoOctaveWrong : ChangeSpec := { name := "fnExactIntoOctave", vars := ["loop.example/tonesincircles/impl.maxPowers", "loop.example/tonesincircles/impl.ratioPrimes"], fn := fun _ => fun
  | [d, g1, g2] => { results := [.lit (.bool false)], args := [d], vars := [g1, g2] }
  | _ => none }
def FnExactIntoOctaveWrongFalsely : Prop := fnExactIntoOctaveRow.holds Tryd.pinned (OpenSpec.ofChange fnExactIntoOctaveWrong)

/-- 'laws.FnExactStepsBy': WHATEVER THE INPUT: true; the input reads as it did. -/
def fnExactStepsBySpec : ChangeSpec := { name := "fnExactStepsBy", vars := ["loop.example/tonesincircles/impl.maxPowers"], fn := fun _ => fun
  | [d1, d2, g1] => { results := [.lit (.bool true)], args := [d1, d2], vars := [g1] }
  | _ => none }
def fnExactStepsByRow : OpenClaim := { program := "ytfchideohinifaadoor", sum := "8ebae095439cf78eb896a10b41e8dd6de372ce82b4700ec05cb35563cda34bbb", func := "loop.example/tonesincircles/laws.FnExactStepsBy", spec := "fnExactStepsBy", named := ["loop.example/tonesincircles/impl.maxPowers"], apart := false, laid := [("loop.example/tonesincircles/impl.maxPowers", laid_loop_example_tonesincircles_impl_maxPowers)] }
def FnExactStepsBySaid : Prop := fnExactStepsByRow.holds Tryd.pinned (OpenSpec.ofChange fnExactStepsBySpec)

/-- ITS FALSE NEIGHBOUR: 'it returns false'. Refute it at one input. -/
def fnExactStepsByWrong : ChangeSpec := { name := "fnExactStepsBy", vars := ["loop.example/tonesincircles/impl.maxPowers"], fn := fun _ => fun
  | [d1, d2, g1] => { results := [.lit (.bool false)], args := [d1, d2], vars := [g1] }
  | _ => none }
def FnExactStepsByWrongFalsely : Prop := fnExactStepsByRow.holds Tryd.pinned (OpenSpec.ofChange fnExactStepsByWrong)

/-- 'laws.FnExactLeftOf': WHATEVER THE INPUT: true; the input reads as it did. -/
def fnExactLeftOfSpec : ChangeSpec := { name := "fnExactLeftOf", vars := ["loop.example/tonesincircles/impl.ratioPrimes"], fn := fun _ => fun
  | [d, g1] => { results := [.lit (.bool true)], args := [d], vars := [g1] }
  | _ => none }
def fnExactLeftOfRow : OpenClaim := { program := "ytfchideohinifaadoor", sum := "8ebae095439cf78eb896a10b41e8dd6de372ce82b4700ec05cb35563cda34bbb", func := "loop.example/tonesincircles/laws.FnExactLeftOf", spec := "fnExactLeftOf", named := ["loop.example/tonesincircles/impl.ratioPrimes"], apart := false, laid := [("loop.example/tonesincircles/impl.ratioPrimes", laid_loop_example_tonesincircles_impl_ratioPrimes)] }
def FnExactLeftOfSaid : Prop := fnExactLeftOfRow.holds Tryd.pinned (OpenSpec.ofChange fnExactLeftOfSpec)

/-- ITS FALSE NEIGHBOUR: 'it returns false'. Refute it at one input. -/
def fnExactLeftOfWrong : ChangeSpec := { name := "fnExactLeftOf", vars := ["loop.example/tonesincircles/impl.ratioPrimes"], fn := fun _ => fun
  | [d, g1] => { results := [.lit (.bool false)], args := [d], vars := [g1] }
  | _ => none }
def FnExactLeftOfWrongFalsely : Prop := fnExactLeftOfRow.holds Tryd.pinned (OpenSpec.ofChange fnExactLeftOfWrong)

/-- 'laws.FnExactBestTones': WHATEVER THE INPUT: true; the input reads as it did. -/
def fnExactBestTonesSpec : ChangeSpec := { name := "fnExactBestTones", vars := ["loop.example/tonesincircles/impl.ratioPrimes"], fn := fun _ => fun
  | [d, g1] => { results := [.lit (.bool true)], args := [d], vars := [g1] }
  | _ => none }
def fnExactBestTonesRow : OpenClaim := { program := "ytfchideohinifaadoor", sum := "8ebae095439cf78eb896a10b41e8dd6de372ce82b4700ec05cb35563cda34bbb", func := "loop.example/tonesincircles/laws.FnExactBestTones", spec := "fnExactBestTones", named := ["loop.example/tonesincircles/impl.ratioPrimes"], apart := false, laid := [("loop.example/tonesincircles/impl.ratioPrimes", laid_loop_example_tonesincircles_impl_ratioPrimes)] }
def FnExactBestTonesSaid : Prop := fnExactBestTonesRow.holds Tryd.pinned (OpenSpec.ofChange fnExactBestTonesSpec)

/-- ITS FALSE NEIGHBOUR: 'it returns false'. Refute it at one input. -/
def fnExactBestTonesWrong : ChangeSpec := { name := "fnExactBestTones", vars := ["loop.example/tonesincircles/impl.ratioPrimes"], fn := fun _ => fun
  | [d, g1] => { results := [.lit (.bool false)], args := [d], vars := [g1] }
  | _ => none }
def FnExactBestTonesWrongFalsely : Prop := fnExactBestTonesRow.holds Tryd.pinned (OpenSpec.ofChange fnExactBestTonesWrong)

/-- 'laws.FnExactFifthsOf': WHATEVER THE INPUT: true; the input reads as it did. -/
def fnExactFifthsOfSpec : ChangeSpec := { name := "fnExactFifthsOf", vars := ["loop.example/tonesincircles/impl.ratioPrimes"], fn := fun _ => fun
  | [d, g1] => { results := [.lit (.bool true)], args := [d], vars := [g1] }
  | _ => none }
def fnExactFifthsOfRow : OpenClaim := { program := "ytfchideohinifaadoor", sum := "8ebae095439cf78eb896a10b41e8dd6de372ce82b4700ec05cb35563cda34bbb", func := "loop.example/tonesincircles/laws.FnExactFifthsOf", spec := "fnExactFifthsOf", unfollowed := true, recurses := true, named := ["loop.example/tonesincircles/impl.ratioPrimes"], apart := false, laid := [("loop.example/tonesincircles/impl.ratioPrimes", laid_loop_example_tonesincircles_impl_ratioPrimes)] }
def FnExactFifthsOfSaid : Prop := fnExactFifthsOfRow.holds Tryd.pinned (OpenSpec.ofChange fnExactFifthsOfSpec)

/-- ITS FALSE NEIGHBOUR: 'it returns false'. Refute it at one input. -/
def fnExactFifthsOfWrong : ChangeSpec := { name := "fnExactFifthsOf", vars := ["loop.example/tonesincircles/impl.ratioPrimes"], fn := fun _ => fun
  | [d, g1] => { results := [.lit (.bool false)], args := [d], vars := [g1] }
  | _ => none }
def FnExactFifthsOfWrongFalsely : Prop := fnExactFifthsOfRow.holds Tryd.pinned (OpenSpec.ofChange fnExactFifthsOfWrong)

/-- 'laws.FnExactGapsBetween': WHATEVER THE INPUT: true; the input reads as it did. -/
def fnExactGapsBetweenSpec : ChangeSpec := { name := "fnExactGapsBetween", vars := ["loop.example/tonesincircles/impl.ratioPrimes"], fn := fun _ => fun
  | [d, g1] => { results := [.lit (.bool true)], args := [d], vars := [g1] }
  | _ => none }
def fnExactGapsBetweenRow : OpenClaim := { program := "ytfchideohinifaadoor", sum := "8ebae095439cf78eb896a10b41e8dd6de372ce82b4700ec05cb35563cda34bbb", func := "loop.example/tonesincircles/laws.FnExactGapsBetween", spec := "fnExactGapsBetween", unfollowed := true, recurses := true, named := ["loop.example/tonesincircles/impl.ratioPrimes"], apart := false, laid := [("loop.example/tonesincircles/impl.ratioPrimes", laid_loop_example_tonesincircles_impl_ratioPrimes)] }
def FnExactGapsBetweenSaid : Prop := fnExactGapsBetweenRow.holds Tryd.pinned (OpenSpec.ofChange fnExactGapsBetweenSpec)

/-- ITS FALSE NEIGHBOUR: 'it returns false'. Refute it at one input. -/
def fnExactGapsBetweenWrong : ChangeSpec := { name := "fnExactGapsBetween", vars := ["loop.example/tonesincircles/impl.ratioPrimes"], fn := fun _ => fun
  | [d, g1] => { results := [.lit (.bool false)], args := [d], vars := [g1] }
  | _ => none }
def FnExactGapsBetweenWrongFalsely : Prop := fnExactGapsBetweenRow.holds Tryd.pinned (OpenSpec.ofChange fnExactGapsBetweenWrong)

/- THE SECOND FORM. 'bulk': how many values and letters a reading holds, each counted each time it is reached (what is shared counts as often as it is met; a slice's spare places count too). A statement '..UptoSaid' is the law's where the arguments, and the package variables that the reading takes, are together of bulk at most 1048576: NARROWER than '..Said'. Prove '..Said' where nothing that the law and all that it calls make is longer than what came in: it says more and counts as full. Else prove '..UptoSaid'. A law counts once. -/
mutual
def uptoBulk {H : Type} : DataW H → Nat
  | .lit (.string bytes) => bytes.length + 1
  | .lit _ => 1
  | .nil => 1
  | .ptr d => uptoBulk d + 1
  | .slice elems spare => uptoBulkAll elems + uptoBulkAll spare + 1
  | .agg parts => uptoBulkAll parts + 1
  | .iface _ d => uptoBulk d + 1
  | .map entries => uptoBulkEntries entries + 1
  | .held _ => 1
def uptoBulkAll {H : Type} : List (DataW H) → Nat
  | [] => 0
  | d :: r => uptoBulk d + uptoBulkAll r
def uptoBulkEntries {H : Type} : List (Lit × DataW H) → Nat
  | [] => 0
  | x :: r => uptoBulkEntry x + uptoBulkEntries r
def uptoBulkEntry {H : Type} : Lit × DataW H → Nat
  | (.string bytes, d) => bytes.length + uptoBulk d + 1
  | (_, d) => uptoBulk d + 1
 end
def uptoSmall : (H : Type) → List (DataW H) → Bool := fun _ ds => decide (uptoBulkAll ds ≤ 1048576)
def OpenSpec.upto (s : _root_.Go.ChangeSpec) : _root_.Go.OpenSpec := { _root_.Go.OpenSpec.ofChange s with cond := some uptoSmall }

/-- 'laws.FnExactRatioOf', WHERE WHAT IT READS IS OF BULK AT MOST 1048576: true; the input reads as it did. -/
def fnExactRatioOfUptoRow : OpenClaim := { program := "ytfchideohinifaadoor", sum := "8ebae095439cf78eb896a10b41e8dd6de372ce82b4700ec05cb35563cda34bbb", func := "loop.example/tonesincircles/laws.FnExactRatioOf", spec := "fnExactRatioOf", named := ["loop.example/tonesincircles/impl.maxPowers", "loop.example/tonesincircles/impl.ratioPrimes"], apart := false, laid := [("loop.example/tonesincircles/impl.ratioPrimes", laid_loop_example_tonesincircles_impl_ratioPrimes), ("loop.example/tonesincircles/impl.maxPowers", laid_loop_example_tonesincircles_impl_maxPowers)], narrowed := true }
def FnExactRatioOfUptoSaid : Prop := fnExactRatioOfUptoRow.holds Tryd.pinned (OpenSpec.upto fnExactRatioOfSpec)

/-- 'laws.FnExactPowersOf', WHERE WHAT IT READS IS OF BULK AT MOST 1048576: true; the input reads as it did. -/
def fnExactPowersOfUptoRow : OpenClaim := { program := "ytfchideohinifaadoor", sum := "8ebae095439cf78eb896a10b41e8dd6de372ce82b4700ec05cb35563cda34bbb", func := "loop.example/tonesincircles/laws.FnExactPowersOf", spec := "fnExactPowersOf", named := ["loop.example/tonesincircles/impl.ratioPrimes", "loop.example/tonesincircles/impl.maxPowers"], apart := false, laid := [("loop.example/tonesincircles/impl.ratioPrimes", laid_loop_example_tonesincircles_impl_ratioPrimes), ("loop.example/tonesincircles/impl.maxPowers", laid_loop_example_tonesincircles_impl_maxPowers)], narrowed := true }
def FnExactPowersOfUptoSaid : Prop := fnExactPowersOfUptoRow.holds Tryd.pinned (OpenSpec.upto fnExactPowersOfSpec)

/-- 'laws.FnExactIntoOctave', WHERE WHAT IT READS IS OF BULK AT MOST 1048576: true; the input reads as it did. -/
def fnExactIntoOctaveUptoRow : OpenClaim := { program := "ytfchideohinifaadoor", sum := "8ebae095439cf78eb896a10b41e8dd6de372ce82b4700ec05cb35563cda34bbb", func := "loop.example/tonesincircles/laws.FnExactIntoOctave", spec := "fnExactIntoOctave", named := ["loop.example/tonesincircles/impl.maxPowers", "loop.example/tonesincircles/impl.ratioPrimes"], apart := false, laid := [("loop.example/tonesincircles/impl.ratioPrimes", laid_loop_example_tonesincircles_impl_ratioPrimes), ("loop.example/tonesincircles/impl.maxPowers", laid_loop_example_tonesincircles_impl_maxPowers)], narrowed := true }
def FnExactIntoOctaveUptoSaid : Prop := fnExactIntoOctaveUptoRow.holds Tryd.pinned (OpenSpec.upto fnExactIntoOctaveSpec)

/-- 'laws.FnExactStepsBy', WHERE WHAT IT READS IS OF BULK AT MOST 1048576: true; the input reads as it did. -/
def fnExactStepsByUptoRow : OpenClaim := { program := "ytfchideohinifaadoor", sum := "8ebae095439cf78eb896a10b41e8dd6de372ce82b4700ec05cb35563cda34bbb", func := "loop.example/tonesincircles/laws.FnExactStepsBy", spec := "fnExactStepsBy", named := ["loop.example/tonesincircles/impl.maxPowers"], apart := false, laid := [("loop.example/tonesincircles/impl.maxPowers", laid_loop_example_tonesincircles_impl_maxPowers)], narrowed := true }
def FnExactStepsByUptoSaid : Prop := fnExactStepsByUptoRow.holds Tryd.pinned (OpenSpec.upto fnExactStepsBySpec)

/-- 'laws.FnExactLeftOf', WHERE WHAT IT READS IS OF BULK AT MOST 1048576: true; the input reads as it did. -/
def fnExactLeftOfUptoRow : OpenClaim := { program := "ytfchideohinifaadoor", sum := "8ebae095439cf78eb896a10b41e8dd6de372ce82b4700ec05cb35563cda34bbb", func := "loop.example/tonesincircles/laws.FnExactLeftOf", spec := "fnExactLeftOf", named := ["loop.example/tonesincircles/impl.ratioPrimes"], apart := false, laid := [("loop.example/tonesincircles/impl.ratioPrimes", laid_loop_example_tonesincircles_impl_ratioPrimes)], narrowed := true }
def FnExactLeftOfUptoSaid : Prop := fnExactLeftOfUptoRow.holds Tryd.pinned (OpenSpec.upto fnExactLeftOfSpec)

/-- 'laws.FnExactBestTones', WHERE WHAT IT READS IS OF BULK AT MOST 1048576: true; the input reads as it did. -/
def fnExactBestTonesUptoRow : OpenClaim := { program := "ytfchideohinifaadoor", sum := "8ebae095439cf78eb896a10b41e8dd6de372ce82b4700ec05cb35563cda34bbb", func := "loop.example/tonesincircles/laws.FnExactBestTones", spec := "fnExactBestTones", named := ["loop.example/tonesincircles/impl.ratioPrimes"], apart := false, laid := [("loop.example/tonesincircles/impl.ratioPrimes", laid_loop_example_tonesincircles_impl_ratioPrimes)], narrowed := true }
def FnExactBestTonesUptoSaid : Prop := fnExactBestTonesUptoRow.holds Tryd.pinned (OpenSpec.upto fnExactBestTonesSpec)

/-- 'laws.FnExactFifthsOf', WHERE WHAT IT READS IS OF BULK AT MOST 1048576: true; the input reads as it did. -/
def fnExactFifthsOfUptoRow : OpenClaim := { program := "ytfchideohinifaadoor", sum := "8ebae095439cf78eb896a10b41e8dd6de372ce82b4700ec05cb35563cda34bbb", func := "loop.example/tonesincircles/laws.FnExactFifthsOf", spec := "fnExactFifthsOf", unfollowed := true, recurses := true, named := ["loop.example/tonesincircles/impl.ratioPrimes"], apart := false, laid := [("loop.example/tonesincircles/impl.ratioPrimes", laid_loop_example_tonesincircles_impl_ratioPrimes)], narrowed := true }
def FnExactFifthsOfUptoSaid : Prop := fnExactFifthsOfUptoRow.holds Tryd.pinned (OpenSpec.upto fnExactFifthsOfSpec)

/-- 'laws.FnExactGapsBetween', WHERE WHAT IT READS IS OF BULK AT MOST 1048576: true; the input reads as it did. -/
def fnExactGapsBetweenUptoRow : OpenClaim := { program := "ytfchideohinifaadoor", sum := "8ebae095439cf78eb896a10b41e8dd6de372ce82b4700ec05cb35563cda34bbb", func := "loop.example/tonesincircles/laws.FnExactGapsBetween", spec := "fnExactGapsBetween", unfollowed := true, recurses := true, named := ["loop.example/tonesincircles/impl.ratioPrimes"], apart := false, laid := [("loop.example/tonesincircles/impl.ratioPrimes", laid_loop_example_tonesincircles_impl_ratioPrimes)], narrowed := true }
def FnExactGapsBetweenUptoSaid : Prop := fnExactGapsBetweenUptoRow.holds Tryd.pinned (OpenSpec.upto fnExactGapsBetweenSpec)

end Rows
end Go.Proofs.YtfchideohinifaaDoor
