/-
  NARROWER THAN 'FOR EVERY INPUT', by the rows' own cells (each row's printed sentence says how): FnExactFifthsOf: laid · FnExactGapsBetween: laid · FnFifthsOf: laid · FnGapsBetween: laid.
  DERIVED. THE GIVEN ROWS OF THIS SEAT. 4 by the template 'for every input the law returns true; each argument reads behind the call as it read before'; 0 by the template 'total and deterministic' (their statements: YtpcbplademohnaaDoorTotals.lean).
  GIVEN WITH THE SEED: the statements are not yours to turn. If you find one false, say at which input.
  Laid BY PROGRAM, IN A SANDBOX (cutbox-rows.mjs): the forced cells as the released guide's own fill.sh prints them over the translation 44f904b8ab1f5221… (all of the seat's roots in one cut). By AI agents, Wed Nov 11 2026. No macro, syntax, notation, axiom, sorry.
-/
import Derived.Test.YtpcbplademohnaaDoorChecked
import GoSem.Claim
import GoSem.ClaimJoined
import GoSem.ClaimMapViews
import Derived.JoinedTies
import Derived.KernelRfl
namespace Go.Proofs.YtpcbplademohnaaDoor
/- THE CELL 'sum', in the pinned program and in every row, IS THE sha256 OF THE DUMP (.gsa) THAT YtpcbplademohnaaDoorProg.lean LOADS. Nothing in Lean hashes anything: it is a label: what it is worth is what the hold of that sum in a sandbox is worth. -/
noncomputable def Tryd.pinned : Pinned := { name := "ytpcbplademohnaadoor", sum := "44f904b8ab1f5221c266b9475477a9af84d9ff8c2eb14c7ff43e5006087d0589", checked := Tryd.checked }
namespace Rows
def none {H : Type} : Left H := { results := [], args := [] }

/- WHAT THE LISTED PACKAGE-LEVEL VARIABLES READ AS WHEN THE CALL BEGINS. Each datum BY PROGRAM (the guide's laid-datum.mjs) off the statement by which the dump's own 'gosem.cut.vars' lays the variable. In a bare row this is a premise. The card (YtpcbplademohnaaDoorCards.lean) ties it to the program's text. -/
def laid_loop_example_tonesincircles_impl_ratioPrimes {H : Type} : DataW H := .agg [.lit (.int .i64 2), .lit (.int .i64 3), .lit (.int .i64 5)]
def laid_loop_example_tonesincircles_impl_maxPowers {H : Type} : DataW H := .agg [.lit (.int .i64 24), .lit (.int .i64 12), .lit (.int .i64 6)]

/-- 'laws.FnExactFifthsOf': WHATEVER THE INPUT: true; the input reads as it did. -/
def fnExactFifthsOfSpec : ChangeSpec := { name := "fnExactFifthsOf", vars := ["loop.example/tonesincircles/impl.ratioPrimes"], fn := fun _ => fun
  | [d, g1] => { results := [.lit (.bool true)], args := [d], vars := [g1] }
  | _ => none }
def fnExactFifthsOfRow : OpenClaim := { program := "ytpcbplademohnaadoor", sum := "44f904b8ab1f5221c266b9475477a9af84d9ff8c2eb14c7ff43e5006087d0589", func := "loop.example/tonesincircles/laws.FnExactFifthsOf", spec := "fnExactFifthsOf", unfollowed := true, recurses := true, named := ["loop.example/tonesincircles/impl.ratioPrimes"], apart := false, laid := [("loop.example/tonesincircles/impl.ratioPrimes", laid_loop_example_tonesincircles_impl_ratioPrimes)] }
def FnExactFifthsOfSaid : Prop := fnExactFifthsOfRow.holds Tryd.pinned (OpenSpec.ofChange fnExactFifthsOfSpec)

/-- ITS FALSE NEIGHBOUR: 'it returns false'. Refute it at one input. -/
def fnExactFifthsOfWrong : ChangeSpec := { name := "fnExactFifthsOf", vars := ["loop.example/tonesincircles/impl.ratioPrimes"], fn := fun _ => fun
  | [d, g1] => { results := [.lit (.bool false)], args := [d], vars := [g1] }
  | _ => none }
def FnExactFifthsOfWrongFalsely : Prop := fnExactFifthsOfRow.holds Tryd.pinned (OpenSpec.ofChange fnExactFifthsOfWrong)

/-- 'laws.FnExactGapsBetween': WHATEVER THE INPUT: true; the input reads as it did. -/
def fnExactGapsBetweenSpec : ChangeSpec := { name := "fnExactGapsBetween", vars := ["loop.example/tonesincircles/impl.ratioPrimes"], fn := fun _ => fun
  | [d, g1] => { results := [.lit (.bool true)], args := [d], vars := [g1] }
  | _ => none }
def fnExactGapsBetweenRow : OpenClaim := { program := "ytpcbplademohnaadoor", sum := "44f904b8ab1f5221c266b9475477a9af84d9ff8c2eb14c7ff43e5006087d0589", func := "loop.example/tonesincircles/laws.FnExactGapsBetween", spec := "fnExactGapsBetween", unfollowed := true, recurses := true, named := ["loop.example/tonesincircles/impl.ratioPrimes"], apart := false, laid := [("loop.example/tonesincircles/impl.ratioPrimes", laid_loop_example_tonesincircles_impl_ratioPrimes)] }
def FnExactGapsBetweenSaid : Prop := fnExactGapsBetweenRow.holds Tryd.pinned (OpenSpec.ofChange fnExactGapsBetweenSpec)

/-- ITS FALSE NEIGHBOUR: 'it returns false'. Refute it at one input. -/
def fnExactGapsBetweenWrong : ChangeSpec := { name := "fnExactGapsBetween", vars := ["loop.example/tonesincircles/impl.ratioPrimes"], fn := fun _ => fun
  | [d, g1] => { results := [.lit (.bool false)], args := [d], vars := [g1] }
  | _ => none }
def FnExactGapsBetweenWrongFalsely : Prop := fnExactGapsBetweenRow.holds Tryd.pinned (OpenSpec.ofChange fnExactGapsBetweenWrong)

/-- 'laws.FnFifthsOf': WHATEVER THE INPUT: true; the input reads as it did. -/
def fnFifthsOfSpec : ChangeSpec := { name := "fnFifthsOf", vars := ["loop.example/tonesincircles/impl.ratioPrimes", "loop.example/tonesincircles/impl.maxPowers"], fn := fun _ => fun
  | [d, g1, g2] => { results := [.lit (.bool true)], args := [d], vars := [g1, g2] }
  | _ => none }
def fnFifthsOfRow : OpenClaim := { program := "ytpcbplademohnaadoor", sum := "44f904b8ab1f5221c266b9475477a9af84d9ff8c2eb14c7ff43e5006087d0589", func := "loop.example/tonesincircles/laws.FnFifthsOf", spec := "fnFifthsOf", unfollowed := true, recurses := true, named := ["loop.example/tonesincircles/impl.ratioPrimes", "loop.example/tonesincircles/impl.maxPowers"], apart := false, laid := [("loop.example/tonesincircles/impl.ratioPrimes", laid_loop_example_tonesincircles_impl_ratioPrimes), ("loop.example/tonesincircles/impl.maxPowers", laid_loop_example_tonesincircles_impl_maxPowers)] }
def FnFifthsOfSaid : Prop := fnFifthsOfRow.holds Tryd.pinned (OpenSpec.ofChange fnFifthsOfSpec)

/-- ITS FALSE NEIGHBOUR: 'it returns false'. Refute it at one input. -/
def fnFifthsOfWrong : ChangeSpec := { name := "fnFifthsOf", vars := ["loop.example/tonesincircles/impl.ratioPrimes", "loop.example/tonesincircles/impl.maxPowers"], fn := fun _ => fun
  | [d, g1, g2] => { results := [.lit (.bool false)], args := [d], vars := [g1, g2] }
  | _ => none }
def FnFifthsOfWrongFalsely : Prop := fnFifthsOfRow.holds Tryd.pinned (OpenSpec.ofChange fnFifthsOfWrong)

/-- 'laws.FnGapsBetween': WHATEVER THE INPUT: true; the input reads as it did. -/
def fnGapsBetweenSpec : ChangeSpec := { name := "fnGapsBetween", vars := ["loop.example/tonesincircles/impl.ratioPrimes"], fn := fun _ => fun
  | [d, g1] => { results := [.lit (.bool true)], args := [d], vars := [g1] }
  | _ => none }
def fnGapsBetweenRow : OpenClaim := { program := "ytpcbplademohnaadoor", sum := "44f904b8ab1f5221c266b9475477a9af84d9ff8c2eb14c7ff43e5006087d0589", func := "loop.example/tonesincircles/laws.FnGapsBetween", spec := "fnGapsBetween", unfollowed := true, recurses := true, named := ["loop.example/tonesincircles/impl.ratioPrimes"], apart := false, laid := [("loop.example/tonesincircles/impl.ratioPrimes", laid_loop_example_tonesincircles_impl_ratioPrimes)] }
def FnGapsBetweenSaid : Prop := fnGapsBetweenRow.holds Tryd.pinned (OpenSpec.ofChange fnGapsBetweenSpec)

/-- ITS FALSE NEIGHBOUR: 'it returns false'. Refute it at one input. -/
def fnGapsBetweenWrong : ChangeSpec := { name := "fnGapsBetween", vars := ["loop.example/tonesincircles/impl.ratioPrimes"], fn := fun _ => fun
  | [d, g1] => { results := [.lit (.bool false)], args := [d], vars := [g1] }
  | _ => none }
def FnGapsBetweenWrongFalsely : Prop := fnGapsBetweenRow.holds Tryd.pinned (OpenSpec.ofChange fnGapsBetweenWrong)

/- THE SECOND FORM. 'bulk': how many values and letters a reading holds, each counted each time it is reached (what is shared counts as often as it is met; a slice's spare places count too). A statement '..UptoSaid' is the law's where the arguments, and the package variables that the reading takes, are together of bulk at most 1048576: NARROWER than '..Said'. Prove '..Said' where nothing that the law and all that it calls make is longer than what came in: it says more and counts as full. Else prove '..UptoSaid'. A law counts once. -/
mutual
def uptoBulk {H : Type} : DataW H → Nat
  | .lit (.string bytes) => bytes.length + 1
  | .lit _ => 1
  | .nil => 1
  | .ptr d => uptoBulk d + 1
  | .slice elems spare => uptoBulkAll elems + uptoBulkAll spare + 1
  | .agg parts => uptoBulkAll parts + 1
  | .iface _ d => uptoBulk d + 1
  | .map entries => uptoBulkEntries entries + 1
  | .held _ => 1
def uptoBulkAll {H : Type} : List (DataW H) → Nat
  | [] => 0
  | d :: r => uptoBulk d + uptoBulkAll r
def uptoBulkEntries {H : Type} : List (Lit × DataW H) → Nat
  | [] => 0
  | x :: r => uptoBulkEntry x + uptoBulkEntries r
def uptoBulkEntry {H : Type} : Lit × DataW H → Nat
  | (.string bytes, d) => bytes.length + uptoBulk d + 1
  | (_, d) => uptoBulk d + 1
 end
def uptoSmall : (H : Type) → List (DataW H) → Bool := fun _ ds => decide (uptoBulkAll ds ≤ 1048576)
def OpenSpec.upto (s : _root_.Go.ChangeSpec) : _root_.Go.OpenSpec := { _root_.Go.OpenSpec.ofChange s with cond := some uptoSmall }

/-- 'laws.FnExactFifthsOf', WHERE WHAT IT READS IS OF BULK AT MOST 1048576: true; the input reads as it did. -/
def fnExactFifthsOfUptoRow : OpenClaim := { program := "ytpcbplademohnaadoor", sum := "44f904b8ab1f5221c266b9475477a9af84d9ff8c2eb14c7ff43e5006087d0589", func := "loop.example/tonesincircles/laws.FnExactFifthsOf", spec := "fnExactFifthsOf", unfollowed := true, recurses := true, named := ["loop.example/tonesincircles/impl.ratioPrimes"], apart := false, laid := [("loop.example/tonesincircles/impl.ratioPrimes", laid_loop_example_tonesincircles_impl_ratioPrimes)], narrowed := true }
def FnExactFifthsOfUptoSaid : Prop := fnExactFifthsOfUptoRow.holds Tryd.pinned (OpenSpec.upto fnExactFifthsOfSpec)

/-- 'laws.FnExactGapsBetween', WHERE WHAT IT READS IS OF BULK AT MOST 1048576: true; the input reads as it did. -/
def fnExactGapsBetweenUptoRow : OpenClaim := { program := "ytpcbplademohnaadoor", sum := "44f904b8ab1f5221c266b9475477a9af84d9ff8c2eb14c7ff43e5006087d0589", func := "loop.example/tonesincircles/laws.FnExactGapsBetween", spec := "fnExactGapsBetween", unfollowed := true, recurses := true, named := ["loop.example/tonesincircles/impl.ratioPrimes"], apart := false, laid := [("loop.example/tonesincircles/impl.ratioPrimes", laid_loop_example_tonesincircles_impl_ratioPrimes)], narrowed := true }
def FnExactGapsBetweenUptoSaid : Prop := fnExactGapsBetweenUptoRow.holds Tryd.pinned (OpenSpec.upto fnExactGapsBetweenSpec)

/-- 'laws.FnFifthsOf', WHERE WHAT IT READS IS OF BULK AT MOST 1048576: true; the input reads as it did. -/
def fnFifthsOfUptoRow : OpenClaim := { program := "ytpcbplademohnaadoor", sum := "44f904b8ab1f5221c266b9475477a9af84d9ff8c2eb14c7ff43e5006087d0589", func := "loop.example/tonesincircles/laws.FnFifthsOf", spec := "fnFifthsOf", unfollowed := true, recurses := true, named := ["loop.example/tonesincircles/impl.ratioPrimes", "loop.example/tonesincircles/impl.maxPowers"], apart := false, laid := [("loop.example/tonesincircles/impl.ratioPrimes", laid_loop_example_tonesincircles_impl_ratioPrimes), ("loop.example/tonesincircles/impl.maxPowers", laid_loop_example_tonesincircles_impl_maxPowers)], narrowed := true }
def FnFifthsOfUptoSaid : Prop := fnFifthsOfUptoRow.holds Tryd.pinned (OpenSpec.upto fnFifthsOfSpec)

/-- 'laws.FnGapsBetween', WHERE WHAT IT READS IS OF BULK AT MOST 1048576: true; the input reads as it did. -/
def fnGapsBetweenUptoRow : OpenClaim := { program := "ytpcbplademohnaadoor", sum := "44f904b8ab1f5221c266b9475477a9af84d9ff8c2eb14c7ff43e5006087d0589", func := "loop.example/tonesincircles/laws.FnGapsBetween", spec := "fnGapsBetween", unfollowed := true, recurses := true, named := ["loop.example/tonesincircles/impl.ratioPrimes"], apart := false, laid := [("loop.example/tonesincircles/impl.ratioPrimes", laid_loop_example_tonesincircles_impl_ratioPrimes)], narrowed := true }
def FnGapsBetweenUptoSaid : Prop := fnGapsBetweenUptoRow.holds Tryd.pinned (OpenSpec.upto fnGapsBetweenSpec)

end Rows
end Go.Proofs.YtpcbplademohnaaDoor
