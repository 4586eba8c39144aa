/-
  No cell of these rows narrows 'for every input' (looked for: loops, veiled, ifaces, maps, wideKeys, modest, calm, conditions, laid).
  DERIVED. THE GIVEN ROWS OF THIS SEAT. 8 by the template 'for every input the law returns true; each argument reads behind the call as it read before'; 0 by the template 'total and deterministic' (their statements: YtgpbgbcdlebaiaaTotals.lean).
  GIVEN WITH THE SEED: the statements are not yours to turn. If you find one false, say at which input.
  Laid BY PROGRAM, IN A SANDBOX (cutbox-rows.mjs): the forced cells as the released guide's own fill.sh prints them over the translation e227865f4f6f09eb… (all of the seat's roots in one cut). By AI agents, Wed Nov 11 2026. No macro, syntax, notation, axiom, sorry.
-/
import Derived.Test.YtgpbgbcdlebaiaaChecked
import GoSem.Claim
import GoSem.ClaimJoined
import GoSem.ClaimMapViews
import Derived.JoinedTies
import Derived.KernelRfl
namespace Go.Proofs.Ytgpbgbcdlebaiaa
/- THE CELL 'sum', in the pinned program and in every row, IS THE sha256 OF THE DUMP (.gsa) THAT YtgpbgbcdlebaiaaProg.lean LOADS. Nothing in Lean hashes anything: it is a label: what it is worth is what the hold of that sum in a sandbox is worth. -/
noncomputable def Try.pinned : Pinned := { name := "ytgpbgbcdlebaiaa", sum := "e227865f4f6f09eb3f3bd155594affe88d15809a4a605b84bfa9a49f25001f20", checked := Try.checked }
namespace Rows
def none {H : Type} : Left H := { results := [], args := [] }

/-- 'laws.FnMovesOf': WHATEVER THE INPUT: true; the input reads as it did. -/
def fnMovesOfSpec : ChangeSpec := { name := "fnMovesOf", fn := fun _ => fun
  | [d] => { results := [.lit (.bool true)], args := [d] }
  | _ => none }
def fnMovesOfRow : OpenClaim := { program := "ytgpbgbcdlebaiaa", sum := "e227865f4f6f09eb3f3bd155594affe88d15809a4a605b84bfa9a49f25001f20", func := "loop.example/tonesincircles/laws.FnMovesOf", spec := "fnMovesOf", apart := false }
def FnMovesOfSaid : Prop := fnMovesOfRow.holds Try.pinned (OpenSpec.ofChange fnMovesOfSpec)

/-- ITS FALSE NEIGHBOUR: 'it returns false'. Refute it at one input. -/
def fnMovesOfWrong : ChangeSpec := { name := "fnMovesOf", fn := fun _ => fun
  | [d] => { results := [.lit (.bool false)], args := [d] }
  | _ => none }
def FnMovesOfWrongFalsely : Prop := fnMovesOfRow.holds Try.pinned (OpenSpec.ofChange fnMovesOfWrong)

/-- 'laws.FnPeriodOf': WHATEVER THE INPUT: true; the input reads as it did. -/
def fnPeriodOfSpec : ChangeSpec := { name := "fnPeriodOf", fn := fun _ => fun
  | [d] => { results := [.lit (.bool true)], args := [d] }
  | _ => none }
def fnPeriodOfRow : OpenClaim := { program := "ytgpbgbcdlebaiaa", sum := "e227865f4f6f09eb3f3bd155594affe88d15809a4a605b84bfa9a49f25001f20", func := "loop.example/tonesincircles/laws.FnPeriodOf", spec := "fnPeriodOf", apart := false }
def FnPeriodOfSaid : Prop := fnPeriodOfRow.holds Try.pinned (OpenSpec.ofChange fnPeriodOfSpec)

/-- ITS FALSE NEIGHBOUR: 'it returns false'. Refute it at one input. -/
def fnPeriodOfWrong : ChangeSpec := { name := "fnPeriodOf", fn := fun _ => fun
  | [d] => { results := [.lit (.bool false)], args := [d] }
  | _ => none }
def FnPeriodOfWrongFalsely : Prop := fnPeriodOfRow.holds Try.pinned (OpenSpec.ofChange fnPeriodOfWrong)

/-- 'laws.FnIsOdd': WHATEVER THE INPUT: true; the input reads as it did. -/
def fnIsOddSpec : ChangeSpec := { name := "fnIsOdd", fn := fun _ => fun
  | [d] => { results := [.lit (.bool true)], args := [d] }
  | _ => none }
def fnIsOddRow : OpenClaim := { program := "ytgpbgbcdlebaiaa", sum := "e227865f4f6f09eb3f3bd155594affe88d15809a4a605b84bfa9a49f25001f20", func := "loop.example/tonesincircles/laws.FnIsOdd", spec := "fnIsOdd", apart := false }
def FnIsOddSaid : Prop := fnIsOddRow.holds Try.pinned (OpenSpec.ofChange fnIsOddSpec)

/-- ITS FALSE NEIGHBOUR: 'it returns false'. Refute it at one input. -/
def fnIsOddWrong : ChangeSpec := { name := "fnIsOdd", fn := fun _ => fun
  | [d] => { results := [.lit (.bool false)], args := [d] }
  | _ => none }
def FnIsOddWrongFalsely : Prop := fnIsOddRow.holds Try.pinned (OpenSpec.ofChange fnIsOddWrong)

/-- 'laws.FnSumsOf': WHATEVER THE INPUT: true; the input reads as it did. -/
def fnSumsOfSpec : ChangeSpec := { name := "fnSumsOf", fn := fun _ => fun
  | [d] => { results := [.lit (.bool true)], args := [d] }
  | _ => none }
def fnSumsOfRow : OpenClaim := { program := "ytgpbgbcdlebaiaa", sum := "e227865f4f6f09eb3f3bd155594affe88d15809a4a605b84bfa9a49f25001f20", func := "loop.example/tonesincircles/laws.FnSumsOf", spec := "fnSumsOf", apart := false }
def FnSumsOfSaid : Prop := fnSumsOfRow.holds Try.pinned (OpenSpec.ofChange fnSumsOfSpec)

/-- ITS FALSE NEIGHBOUR: 'it returns false'. Refute it at one input. -/
def fnSumsOfWrong : ChangeSpec := { name := "fnSumsOf", fn := fun _ => fun
  | [d] => { results := [.lit (.bool false)], args := [d] }
  | _ => none }
def FnSumsOfWrongFalsely : Prop := fnSumsOfRow.holds Try.pinned (OpenSpec.ofChange fnSumsOfWrong)

/-- 'laws.FnTilesOf': WHATEVER THE INPUT: true; the input reads as it did. -/
def fnTilesOfSpec : ChangeSpec := { name := "fnTilesOf", fn := fun _ => fun
  | [d] => { results := [.lit (.bool true)], args := [d] }
  | _ => none }
def fnTilesOfRow : OpenClaim := { program := "ytgpbgbcdlebaiaa", sum := "e227865f4f6f09eb3f3bd155594affe88d15809a4a605b84bfa9a49f25001f20", func := "loop.example/tonesincircles/laws.FnTilesOf", spec := "fnTilesOf", recurses := true, apart := false }
def FnTilesOfSaid : Prop := fnTilesOfRow.holds Try.pinned (OpenSpec.ofChange fnTilesOfSpec)

/-- ITS FALSE NEIGHBOUR: 'it returns false'. Refute it at one input. -/
def fnTilesOfWrong : ChangeSpec := { name := "fnTilesOf", fn := fun _ => fun
  | [d] => { results := [.lit (.bool false)], args := [d] }
  | _ => none }
def FnTilesOfWrongFalsely : Prop := fnTilesOfRow.holds Try.pinned (OpenSpec.ofChange fnTilesOfWrong)

/-- 'laws.FnFactorsOf': WHATEVER THE INPUT: true; the input reads as it did. -/
def fnFactorsOfSpec : ChangeSpec := { name := "fnFactorsOf", fn := fun _ => fun
  | [d] => { results := [.lit (.bool true)], args := [d] }
  | _ => none }
def fnFactorsOfRow : OpenClaim := { program := "ytgpbgbcdlebaiaa", sum := "e227865f4f6f09eb3f3bd155594affe88d15809a4a605b84bfa9a49f25001f20", func := "loop.example/tonesincircles/laws.FnFactorsOf", spec := "fnFactorsOf", apart := false }
def FnFactorsOfSaid : Prop := fnFactorsOfRow.holds Try.pinned (OpenSpec.ofChange fnFactorsOfSpec)

/-- ITS FALSE NEIGHBOUR: 'it returns false'. Refute it at one input. -/
def fnFactorsOfWrong : ChangeSpec := { name := "fnFactorsOf", fn := fun _ => fun
  | [d] => { results := [.lit (.bool false)], args := [d] }
  | _ => none }
def FnFactorsOfWrongFalsely : Prop := fnFactorsOfRow.holds Try.pinned (OpenSpec.ofChange fnFactorsOfWrong)

/-- 'laws.FnIsLoose': WHATEVER THE INPUT: true; the input reads as it did. -/
def fnIsLooseSpec : ChangeSpec := { name := "fnIsLoose", fn := fun _ => fun
  | [d] => { results := [.lit (.bool true)], args := [d] }
  | _ => none }
def fnIsLooseRow : OpenClaim := { program := "ytgpbgbcdlebaiaa", sum := "e227865f4f6f09eb3f3bd155594affe88d15809a4a605b84bfa9a49f25001f20", func := "loop.example/tonesincircles/laws.FnIsLoose", spec := "fnIsLoose", apart := false }
def FnIsLooseSaid : Prop := fnIsLooseRow.holds Try.pinned (OpenSpec.ofChange fnIsLooseSpec)

/-- ITS FALSE NEIGHBOUR: 'it returns false'. Refute it at one input. -/
def fnIsLooseWrong : ChangeSpec := { name := "fnIsLoose", fn := fun _ => fun
  | [d] => { results := [.lit (.bool false)], args := [d] }
  | _ => none }
def FnIsLooseWrongFalsely : Prop := fnIsLooseRow.holds Try.pinned (OpenSpec.ofChange fnIsLooseWrong)

/-- 'laws.FnCanonOf': WHATEVER THE INPUT: true; the input reads as it did. -/
def fnCanonOfSpec : ChangeSpec := { name := "fnCanonOf", fn := fun _ => fun
  | [d] => { results := [.lit (.bool true)], args := [d] }
  | _ => none }
def fnCanonOfRow : OpenClaim := { program := "ytgpbgbcdlebaiaa", sum := "e227865f4f6f09eb3f3bd155594affe88d15809a4a605b84bfa9a49f25001f20", func := "loop.example/tonesincircles/laws.FnCanonOf", spec := "fnCanonOf", apart := false }
def FnCanonOfSaid : Prop := fnCanonOfRow.holds Try.pinned (OpenSpec.ofChange fnCanonOfSpec)

/-- ITS FALSE NEIGHBOUR: 'it returns false'. Refute it at one input. -/
def fnCanonOfWrong : ChangeSpec := { name := "fnCanonOf", fn := fun _ => fun
  | [d] => { results := [.lit (.bool false)], args := [d] }
  | _ => none }
def FnCanonOfWrongFalsely : Prop := fnCanonOfRow.holds Try.pinned (OpenSpec.ofChange fnCanonOfWrong)

/- THE SECOND FORM. 'bulk': how many values and letters a reading holds, each counted each time it is reached (what is shared counts as often as it is met; a slice's spare places count too). A statement '..UptoSaid' is the law's where the arguments, and the package variables that the reading takes, are together of bulk at most 1048576: NARROWER than '..Said'. Prove '..Said' where nothing that the law and all that it calls make is longer than what came in: it says more and counts as full. Else prove '..UptoSaid'. A law counts once. -/
mutual
def uptoBulk {H : Type} : DataW H → Nat
  | .lit (.string bytes) => bytes.length + 1
  | .lit _ => 1
  | .nil => 1
  | .ptr d => uptoBulk d + 1
  | .slice elems spare => uptoBulkAll elems + uptoBulkAll spare + 1
  | .agg parts => uptoBulkAll parts + 1
  | .iface _ d => uptoBulk d + 1
  | .map entries => uptoBulkEntries entries + 1
  | .held _ => 1
def uptoBulkAll {H : Type} : List (DataW H) → Nat
  | [] => 0
  | d :: r => uptoBulk d + uptoBulkAll r
def uptoBulkEntries {H : Type} : List (Lit × DataW H) → Nat
  | [] => 0
  | x :: r => uptoBulkEntry x + uptoBulkEntries r
def uptoBulkEntry {H : Type} : Lit × DataW H → Nat
  | (.string bytes, d) => bytes.length + uptoBulk d + 1
  | (_, d) => uptoBulk d + 1
 end
def uptoSmall : (H : Type) → List (DataW H) → Bool := fun _ ds => decide (uptoBulkAll ds ≤ 1048576)
def OpenSpec.upto (s : _root_.Go.ChangeSpec) : _root_.Go.OpenSpec := { _root_.Go.OpenSpec.ofChange s with cond := some uptoSmall }

/-- 'laws.FnMovesOf', WHERE WHAT IT READS IS OF BULK AT MOST 1048576: true; the input reads as it did. -/
def fnMovesOfUptoRow : OpenClaim := { program := "ytgpbgbcdlebaiaa", sum := "e227865f4f6f09eb3f3bd155594affe88d15809a4a605b84bfa9a49f25001f20", func := "loop.example/tonesincircles/laws.FnMovesOf", spec := "fnMovesOf", apart := false, narrowed := true }
def FnMovesOfUptoSaid : Prop := fnMovesOfUptoRow.holds Try.pinned (OpenSpec.upto fnMovesOfSpec)

/-- 'laws.FnPeriodOf', WHERE WHAT IT READS IS OF BULK AT MOST 1048576: true; the input reads as it did. -/
def fnPeriodOfUptoRow : OpenClaim := { program := "ytgpbgbcdlebaiaa", sum := "e227865f4f6f09eb3f3bd155594affe88d15809a4a605b84bfa9a49f25001f20", func := "loop.example/tonesincircles/laws.FnPeriodOf", spec := "fnPeriodOf", apart := false, narrowed := true }
def FnPeriodOfUptoSaid : Prop := fnPeriodOfUptoRow.holds Try.pinned (OpenSpec.upto fnPeriodOfSpec)

/-- 'laws.FnIsOdd', WHERE WHAT IT READS IS OF BULK AT MOST 1048576: true; the input reads as it did. -/
def fnIsOddUptoRow : OpenClaim := { program := "ytgpbgbcdlebaiaa", sum := "e227865f4f6f09eb3f3bd155594affe88d15809a4a605b84bfa9a49f25001f20", func := "loop.example/tonesincircles/laws.FnIsOdd", spec := "fnIsOdd", apart := false, narrowed := true }
def FnIsOddUptoSaid : Prop := fnIsOddUptoRow.holds Try.pinned (OpenSpec.upto fnIsOddSpec)

/-- 'laws.FnSumsOf', WHERE WHAT IT READS IS OF BULK AT MOST 1048576: true; the input reads as it did. -/
def fnSumsOfUptoRow : OpenClaim := { program := "ytgpbgbcdlebaiaa", sum := "e227865f4f6f09eb3f3bd155594affe88d15809a4a605b84bfa9a49f25001f20", func := "loop.example/tonesincircles/laws.FnSumsOf", spec := "fnSumsOf", apart := false, narrowed := true }
def FnSumsOfUptoSaid : Prop := fnSumsOfUptoRow.holds Try.pinned (OpenSpec.upto fnSumsOfSpec)

/-- 'laws.FnTilesOf', WHERE WHAT IT READS IS OF BULK AT MOST 1048576: true; the input reads as it did. -/
def fnTilesOfUptoRow : OpenClaim := { program := "ytgpbgbcdlebaiaa", sum := "e227865f4f6f09eb3f3bd155594affe88d15809a4a605b84bfa9a49f25001f20", func := "loop.example/tonesincircles/laws.FnTilesOf", spec := "fnTilesOf", recurses := true, apart := false, narrowed := true }
def FnTilesOfUptoSaid : Prop := fnTilesOfUptoRow.holds Try.pinned (OpenSpec.upto fnTilesOfSpec)

/-- 'laws.FnFactorsOf', WHERE WHAT IT READS IS OF BULK AT MOST 1048576: true; the input reads as it did. -/
def fnFactorsOfUptoRow : OpenClaim := { program := "ytgpbgbcdlebaiaa", sum := "e227865f4f6f09eb3f3bd155594affe88d15809a4a605b84bfa9a49f25001f20", func := "loop.example/tonesincircles/laws.FnFactorsOf", spec := "fnFactorsOf", apart := false, narrowed := true }
def FnFactorsOfUptoSaid : Prop := fnFactorsOfUptoRow.holds Try.pinned (OpenSpec.upto fnFactorsOfSpec)

/-- 'laws.FnIsLoose', WHERE WHAT IT READS IS OF BULK AT MOST 1048576: true; the input reads as it did. -/
def fnIsLooseUptoRow : OpenClaim := { program := "ytgpbgbcdlebaiaa", sum := "e227865f4f6f09eb3f3bd155594affe88d15809a4a605b84bfa9a49f25001f20", func := "loop.example/tonesincircles/laws.FnIsLoose", spec := "fnIsLoose", apart := false, narrowed := true }
def FnIsLooseUptoSaid : Prop := fnIsLooseUptoRow.holds Try.pinned (OpenSpec.upto fnIsLooseSpec)

/-- 'laws.FnCanonOf', WHERE WHAT IT READS IS OF BULK AT MOST 1048576: true; the input reads as it did. -/
def fnCanonOfUptoRow : OpenClaim := { program := "ytgpbgbcdlebaiaa", sum := "e227865f4f6f09eb3f3bd155594affe88d15809a4a605b84bfa9a49f25001f20", func := "loop.example/tonesincircles/laws.FnCanonOf", spec := "fnCanonOf", apart := false, narrowed := true }
def FnCanonOfUptoSaid : Prop := fnCanonOfUptoRow.holds Try.pinned (OpenSpec.upto fnCanonOfSpec)

end Rows
end Go.Proofs.Ytgpbgbcdlebaiaa
