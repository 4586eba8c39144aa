/-
  NARROWER THAN 'FOR EVERY INPUT', by the rows' own cells (each row's printed sentence says how): FnExactTriadSet: laid · FnExactTriadOf: laid · FnExactTurnTriad: laid · FnExactTriadsIn: laid.
  DERIVED. THE GIVEN ROWS OF THIS SEAT. 4 by the template 'for every input the law returns true; each argument reads behind the call as it read before'; 0 by the template 'total and deterministic' (their statements: YtclcljkaeloagaaDoorTotals.lean).
  GIVEN WITH THE SEED: the statements are not yours to turn. If you find one false, say at which input.
  Laid BY PROGRAM, IN A SANDBOX (cutbox-rows.mjs): the forced cells as the released guide's own fill.sh prints them over the translation 489cadca59214770… (all of the seat's roots in one cut). By AI agents, Wed Nov 11 2026. No macro, syntax, notation, axiom, sorry.
-/
import Derived.Test.YtclcljkaeloagaaDoorChecked
import GoSem.Claim
import GoSem.ClaimJoined
import GoSem.ClaimMapViews
import Derived.JoinedTies
import Derived.KernelRfl
namespace Go.Proofs.YtclcljkaeloagaaDoor
/- THE CELL 'sum', in the pinned program and in every row, IS THE sha256 OF THE DUMP (.gsa) THAT YtclcljkaeloagaaDoorProg.lean LOADS. Nothing in Lean hashes anything: it is a label: what it is worth is what the hold of that sum in a sandbox is worth. -/
noncomputable def Tryd.pinned : Pinned := { name := "ytclcljkaeloagaadoor", sum := "489cadca592147706340b76e8285c8a1f2f7959ff400df3fc996b7c5fb0ca294", checked := Tryd.checked }
namespace Rows
def none {H : Type} : Left H := { results := [], args := [] }

/- WHAT THE LISTED PACKAGE-LEVEL VARIABLES READ AS WHEN THE CALL BEGINS. Each datum BY PROGRAM (the guide's laid-datum.mjs) off the statement by which the dump's own 'gosem.cut.vars' lays the variable. In a bare row this is a premise. The card (YtclcljkaeloagaaDoorCards.lean) ties it to the program's text. -/
def laid_loop_example_tonesincircles_impl_triadShapes {H : Type} : DataW H := .agg [.agg [.lit (.int .i64 0), .lit (.int .i64 4), .lit (.int .i64 7)], .agg [.lit (.int .i64 0), .lit (.int .i64 3), .lit (.int .i64 7)]]

/-- 'laws.FnExactTriadSet': WHATEVER THE INPUT: true; the input reads as it did. -/
def fnExactTriadSetSpec : ChangeSpec := { name := "fnExactTriadSet", vars := ["loop.example/tonesincircles/impl.triadShapes"], fn := fun _ => fun
  | [d, g1] => { results := [.lit (.bool true)], args := [d], vars := [g1] }
  | _ => none }
def fnExactTriadSetRow : OpenClaim := { program := "ytclcljkaeloagaadoor", sum := "489cadca592147706340b76e8285c8a1f2f7959ff400df3fc996b7c5fb0ca294", func := "loop.example/tonesincircles/laws.FnExactTriadSet", spec := "fnExactTriadSet", named := ["loop.example/tonesincircles/impl.triadShapes"], apart := false, laid := [("loop.example/tonesincircles/impl.triadShapes", laid_loop_example_tonesincircles_impl_triadShapes)] }
def FnExactTriadSetSaid : Prop := fnExactTriadSetRow.holds Tryd.pinned (OpenSpec.ofChange fnExactTriadSetSpec)

/-- ITS FALSE NEIGHBOUR: 'it returns false'. Refute it at one input. -/
def fnExactTriadSetWrong : ChangeSpec := { name := "fnExactTriadSet", vars := ["loop.example/tonesincircles/impl.triadShapes"], fn := fun _ => fun
  | [d, g1] => { results := [.lit (.bool false)], args := [d], vars := [g1] }
  | _ => none }
def FnExactTriadSetWrongFalsely : Prop := fnExactTriadSetRow.holds Tryd.pinned (OpenSpec.ofChange fnExactTriadSetWrong)

/-- 'laws.FnExactTriadOf': WHATEVER THE INPUT: true; the input reads as it did. -/
def fnExactTriadOfSpec : ChangeSpec := { name := "fnExactTriadOf", vars := ["loop.example/tonesincircles/impl.triadShapes"], fn := fun _ => fun
  | [d, g1] => { results := [.lit (.bool true)], args := [d], vars := [g1] }
  | _ => none }
def fnExactTriadOfRow : OpenClaim := { program := "ytclcljkaeloagaadoor", sum := "489cadca592147706340b76e8285c8a1f2f7959ff400df3fc996b7c5fb0ca294", func := "loop.example/tonesincircles/laws.FnExactTriadOf", spec := "fnExactTriadOf", named := ["loop.example/tonesincircles/impl.triadShapes"], apart := false, laid := [("loop.example/tonesincircles/impl.triadShapes", laid_loop_example_tonesincircles_impl_triadShapes)] }
def FnExactTriadOfSaid : Prop := fnExactTriadOfRow.holds Tryd.pinned (OpenSpec.ofChange fnExactTriadOfSpec)

/-- ITS FALSE NEIGHBOUR: 'it returns false'. Refute it at one input. -/
def fnExactTriadOfWrong : ChangeSpec := { name := "fnExactTriadOf", vars := ["loop.example/tonesincircles/impl.triadShapes"], fn := fun _ => fun
  | [d, g1] => { results := [.lit (.bool false)], args := [d], vars := [g1] }
  | _ => none }
def FnExactTriadOfWrongFalsely : Prop := fnExactTriadOfRow.holds Tryd.pinned (OpenSpec.ofChange fnExactTriadOfWrong)

/-- 'laws.FnExactTurnTriad': WHATEVER THE INPUT: true; the input reads as it did. -/
def fnExactTurnTriadSpec : ChangeSpec := { name := "fnExactTurnTriad", vars := ["loop.example/tonesincircles/impl.triadShapes"], fn := fun _ => fun
  | [d1, d2, g1] => { results := [.lit (.bool true)], args := [d1, d2], vars := [g1] }
  | _ => none }
def fnExactTurnTriadRow : OpenClaim := { program := "ytclcljkaeloagaadoor", sum := "489cadca592147706340b76e8285c8a1f2f7959ff400df3fc996b7c5fb0ca294", func := "loop.example/tonesincircles/laws.FnExactTurnTriad", spec := "fnExactTurnTriad", named := ["loop.example/tonesincircles/impl.triadShapes"], apart := false, laid := [("loop.example/tonesincircles/impl.triadShapes", laid_loop_example_tonesincircles_impl_triadShapes)] }
def FnExactTurnTriadSaid : Prop := fnExactTurnTriadRow.holds Tryd.pinned (OpenSpec.ofChange fnExactTurnTriadSpec)

/-- ITS FALSE NEIGHBOUR: 'it returns false'. Refute it at one input. -/
def fnExactTurnTriadWrong : ChangeSpec := { name := "fnExactTurnTriad", vars := ["loop.example/tonesincircles/impl.triadShapes"], fn := fun _ => fun
  | [d1, d2, g1] => { results := [.lit (.bool false)], args := [d1, d2], vars := [g1] }
  | _ => none }
def FnExactTurnTriadWrongFalsely : Prop := fnExactTurnTriadRow.holds Tryd.pinned (OpenSpec.ofChange fnExactTurnTriadWrong)

/-- 'laws.FnExactTriadsIn': WHATEVER THE INPUT: true; the input reads as it did. -/
def fnExactTriadsInSpec : ChangeSpec := { name := "fnExactTriadsIn", vars := ["loop.example/tonesincircles/impl.triadShapes"], fn := fun _ => fun
  | [d, g1] => { results := [.lit (.bool true)], args := [d], vars := [g1] }
  | _ => none }
def fnExactTriadsInRow : OpenClaim := { program := "ytclcljkaeloagaadoor", sum := "489cadca592147706340b76e8285c8a1f2f7959ff400df3fc996b7c5fb0ca294", func := "loop.example/tonesincircles/laws.FnExactTriadsIn", spec := "fnExactTriadsIn", named := ["loop.example/tonesincircles/impl.triadShapes"], apart := false, laid := [("loop.example/tonesincircles/impl.triadShapes", laid_loop_example_tonesincircles_impl_triadShapes)] }
def FnExactTriadsInSaid : Prop := fnExactTriadsInRow.holds Tryd.pinned (OpenSpec.ofChange fnExactTriadsInSpec)

/-- ITS FALSE NEIGHBOUR: 'it returns false'. Refute it at one input. -/
def fnExactTriadsInWrong : ChangeSpec := { name := "fnExactTriadsIn", vars := ["loop.example/tonesincircles/impl.triadShapes"], fn := fun _ => fun
  | [d, g1] => { results := [.lit (.bool false)], args := [d], vars := [g1] }
  | _ => none }
def FnExactTriadsInWrongFalsely : Prop := fnExactTriadsInRow.holds Tryd.pinned (OpenSpec.ofChange fnExactTriadsInWrong)

/- THE SECOND FORM. 'bulk': how many values and letters a reading holds, each counted each time it is reached (what is shared counts as often as it is met; a slice's spare places count too). A statement '..UptoSaid' is the law's where the arguments, and the package variables that the reading takes, are together of bulk at most 1048576: NARROWER than '..Said'. Prove '..Said' where nothing that the law and all that it calls make is longer than what came in: it says more and counts as full. Else prove '..UptoSaid'. A law counts once. -/
mutual
def uptoBulk {H : Type} : DataW H → Nat
  | .lit (.string bytes) => bytes.length + 1
  | .lit _ => 1
  | .nil => 1
  | .ptr d => uptoBulk d + 1
  | .slice elems spare => uptoBulkAll elems + uptoBulkAll spare + 1
  | .agg parts => uptoBulkAll parts + 1
  | .iface _ d => uptoBulk d + 1
  | .map entries => uptoBulkEntries entries + 1
  | .held _ => 1
def uptoBulkAll {H : Type} : List (DataW H) → Nat
  | [] => 0
  | d :: r => uptoBulk d + uptoBulkAll r
def uptoBulkEntries {H : Type} : List (Lit × DataW H) → Nat
  | [] => 0
  | x :: r => uptoBulkEntry x + uptoBulkEntries r
def uptoBulkEntry {H : Type} : Lit × DataW H → Nat
  | (.string bytes, d) => bytes.length + uptoBulk d + 1
  | (_, d) => uptoBulk d + 1
 end
def uptoSmall : (H : Type) → List (DataW H) → Bool := fun _ ds => decide (uptoBulkAll ds ≤ 1048576)
def OpenSpec.upto (s : _root_.Go.ChangeSpec) : _root_.Go.OpenSpec := { _root_.Go.OpenSpec.ofChange s with cond := some uptoSmall }

/-- 'laws.FnExactTriadSet', WHERE WHAT IT READS IS OF BULK AT MOST 1048576: true; the input reads as it did. -/
def fnExactTriadSetUptoRow : OpenClaim := { program := "ytclcljkaeloagaadoor", sum := "489cadca592147706340b76e8285c8a1f2f7959ff400df3fc996b7c5fb0ca294", func := "loop.example/tonesincircles/laws.FnExactTriadSet", spec := "fnExactTriadSet", named := ["loop.example/tonesincircles/impl.triadShapes"], apart := false, laid := [("loop.example/tonesincircles/impl.triadShapes", laid_loop_example_tonesincircles_impl_triadShapes)], narrowed := true }
def FnExactTriadSetUptoSaid : Prop := fnExactTriadSetUptoRow.holds Tryd.pinned (OpenSpec.upto fnExactTriadSetSpec)

/-- 'laws.FnExactTriadOf', WHERE WHAT IT READS IS OF BULK AT MOST 1048576: true; the input reads as it did. -/
def fnExactTriadOfUptoRow : OpenClaim := { program := "ytclcljkaeloagaadoor", sum := "489cadca592147706340b76e8285c8a1f2f7959ff400df3fc996b7c5fb0ca294", func := "loop.example/tonesincircles/laws.FnExactTriadOf", spec := "fnExactTriadOf", named := ["loop.example/tonesincircles/impl.triadShapes"], apart := false, laid := [("loop.example/tonesincircles/impl.triadShapes", laid_loop_example_tonesincircles_impl_triadShapes)], narrowed := true }
def FnExactTriadOfUptoSaid : Prop := fnExactTriadOfUptoRow.holds Tryd.pinned (OpenSpec.upto fnExactTriadOfSpec)

/-- 'laws.FnExactTurnTriad', WHERE WHAT IT READS IS OF BULK AT MOST 1048576: true; the input reads as it did. -/
def fnExactTurnTriadUptoRow : OpenClaim := { program := "ytclcljkaeloagaadoor", sum := "489cadca592147706340b76e8285c8a1f2f7959ff400df3fc996b7c5fb0ca294", func := "loop.example/tonesincircles/laws.FnExactTurnTriad", spec := "fnExactTurnTriad", named := ["loop.example/tonesincircles/impl.triadShapes"], apart := false, laid := [("loop.example/tonesincircles/impl.triadShapes", laid_loop_example_tonesincircles_impl_triadShapes)], narrowed := true }
def FnExactTurnTriadUptoSaid : Prop := fnExactTurnTriadUptoRow.holds Tryd.pinned (OpenSpec.upto fnExactTurnTriadSpec)

/-- 'laws.FnExactTriadsIn', WHERE WHAT IT READS IS OF BULK AT MOST 1048576: true; the input reads as it did. -/
def fnExactTriadsInUptoRow : OpenClaim := { program := "ytclcljkaeloagaadoor", sum := "489cadca592147706340b76e8285c8a1f2f7959ff400df3fc996b7c5fb0ca294", func := "loop.example/tonesincircles/laws.FnExactTriadsIn", spec := "fnExactTriadsIn", named := ["loop.example/tonesincircles/impl.triadShapes"], apart := false, laid := [("loop.example/tonesincircles/impl.triadShapes", laid_loop_example_tonesincircles_impl_triadShapes)], narrowed := true }
def FnExactTriadsInUptoSaid : Prop := fnExactTriadsInUptoRow.holds Tryd.pinned (OpenSpec.upto fnExactTriadsInSpec)

end Rows
end Go.Proofs.YtclcljkaeloagaaDoor
