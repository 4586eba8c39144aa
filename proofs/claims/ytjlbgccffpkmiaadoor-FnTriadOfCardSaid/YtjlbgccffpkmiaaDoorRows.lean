/-
  NARROWER THAN 'FOR EVERY INPUT', by the rows' own cells (each row's printed sentence says how): FnValidTriad: laid · FnTriadSet: laid · FnTriadOf: laid · FnWalkOf: laid · FnShiftTriad: laid · FnTurnTriad: laid.
  DERIVED. THE GIVEN ROWS OF THIS SEAT. 6 by the template 'for every input the law returns true; each argument reads behind the call as it read before'; 0 by the template 'total and deterministic' (their statements: YtjlbgccffpkmiaaDoorTotals.lean).
  GIVEN WITH THE SEED: the statements are not yours to turn. If you find one false, say at which input.
  Laid BY PROGRAM, IN A SANDBOX (cutbox-rows.mjs): the forced cells as the released guide's own fill.sh prints them over the translation 7919d23b7fbe6ceb… (all of the seat's roots in one cut). By AI agents, Wed Nov 11 2026. No macro, syntax, notation, axiom, sorry.
-/
import Derived.Test.YtjlbgccffpkmiaaDoorChecked
import GoSem.Claim
import GoSem.ClaimJoined
import GoSem.ClaimMapViews
import Derived.JoinedTies
import Derived.KernelRfl
namespace Go.Proofs.YtjlbgccffpkmiaaDoor
/- THE CELL 'sum', in the pinned program and in every row, IS THE sha256 OF THE DUMP (.gsa) THAT YtjlbgccffpkmiaaDoorProg.lean LOADS. Nothing in Lean hashes anything: it is a label: what it is worth is what the hold of that sum in a sandbox is worth. -/
noncomputable def Tryd.pinned : Pinned := { name := "ytjlbgccffpkmiaadoor", sum := "7919d23b7fbe6ceb5e082bb40290d3a5e37668b70d9cf05ea09e8e2fb36e2967", checked := Tryd.checked }
namespace Rows
def none {H : Type} : Left H := { results := [], args := [] }

/- WHAT THE LISTED PACKAGE-LEVEL VARIABLES READ AS WHEN THE CALL BEGINS. Each datum BY PROGRAM (the guide's laid-datum.mjs) off the statement by which the dump's own 'gosem.cut.vars' lays the variable. In a bare row this is a premise. The card (YtjlbgccffpkmiaaDoorCards.lean) ties it to the program's text. -/
def laid_loop_example_tonesincircles_impl_triadShapes {H : Type} : DataW H := .agg [.agg [.lit (.int .i64 0), .lit (.int .i64 4), .lit (.int .i64 7)], .agg [.lit (.int .i64 0), .lit (.int .i64 3), .lit (.int .i64 7)]]

/-- 'laws.FnValidTriad': WHATEVER THE INPUT: true; the input reads as it did. -/
def fnValidTriadSpec : ChangeSpec := { name := "fnValidTriad", vars := ["loop.example/tonesincircles/impl.triadShapes"], fn := fun _ => fun
  | [d, g1] => { results := [.lit (.bool true)], args := [d], vars := [g1] }
  | _ => none }
def fnValidTriadRow : OpenClaim := { program := "ytjlbgccffpkmiaadoor", sum := "7919d23b7fbe6ceb5e082bb40290d3a5e37668b70d9cf05ea09e8e2fb36e2967", func := "loop.example/tonesincircles/laws.FnValidTriad", spec := "fnValidTriad", named := ["loop.example/tonesincircles/impl.triadShapes"], apart := false, laid := [("loop.example/tonesincircles/impl.triadShapes", laid_loop_example_tonesincircles_impl_triadShapes)] }
def FnValidTriadSaid : Prop := fnValidTriadRow.holds Tryd.pinned (OpenSpec.ofChange fnValidTriadSpec)

/-- ITS FALSE NEIGHBOUR: 'it returns false'. Refute it at one input. -/
def fnValidTriadWrong : ChangeSpec := { name := "fnValidTriad", vars := ["loop.example/tonesincircles/impl.triadShapes"], fn := fun _ => fun
  | [d, g1] => { results := [.lit (.bool false)], args := [d], vars := [g1] }
  | _ => none }
def FnValidTriadWrongFalsely : Prop := fnValidTriadRow.holds Tryd.pinned (OpenSpec.ofChange fnValidTriadWrong)

/-- 'laws.FnTriadSet': WHATEVER THE INPUT: true; the input reads as it did. -/
def fnTriadSetSpec : ChangeSpec := { name := "fnTriadSet", vars := ["loop.example/tonesincircles/impl.triadShapes"], fn := fun _ => fun
  | [d, g1] => { results := [.lit (.bool true)], args := [d], vars := [g1] }
  | _ => none }
def fnTriadSetRow : OpenClaim := { program := "ytjlbgccffpkmiaadoor", sum := "7919d23b7fbe6ceb5e082bb40290d3a5e37668b70d9cf05ea09e8e2fb36e2967", func := "loop.example/tonesincircles/laws.FnTriadSet", spec := "fnTriadSet", named := ["loop.example/tonesincircles/impl.triadShapes"], apart := false, laid := [("loop.example/tonesincircles/impl.triadShapes", laid_loop_example_tonesincircles_impl_triadShapes)] }
def FnTriadSetSaid : Prop := fnTriadSetRow.holds Tryd.pinned (OpenSpec.ofChange fnTriadSetSpec)

/-- ITS FALSE NEIGHBOUR: 'it returns false'. Refute it at one input. -/
def fnTriadSetWrong : ChangeSpec := { name := "fnTriadSet", vars := ["loop.example/tonesincircles/impl.triadShapes"], fn := fun _ => fun
  | [d, g1] => { results := [.lit (.bool false)], args := [d], vars := [g1] }
  | _ => none }
def FnTriadSetWrongFalsely : Prop := fnTriadSetRow.holds Tryd.pinned (OpenSpec.ofChange fnTriadSetWrong)

/-- 'laws.FnTriadOf': WHATEVER THE INPUT: true; the input reads as it did. -/
def fnTriadOfSpec : ChangeSpec := { name := "fnTriadOf", vars := ["loop.example/tonesincircles/impl.triadShapes"], fn := fun _ => fun
  | [d, g1] => { results := [.lit (.bool true)], args := [d], vars := [g1] }
  | _ => none }
def fnTriadOfRow : OpenClaim := { program := "ytjlbgccffpkmiaadoor", sum := "7919d23b7fbe6ceb5e082bb40290d3a5e37668b70d9cf05ea09e8e2fb36e2967", func := "loop.example/tonesincircles/laws.FnTriadOf", spec := "fnTriadOf", named := ["loop.example/tonesincircles/impl.triadShapes"], apart := false, laid := [("loop.example/tonesincircles/impl.triadShapes", laid_loop_example_tonesincircles_impl_triadShapes)] }
def FnTriadOfSaid : Prop := fnTriadOfRow.holds Tryd.pinned (OpenSpec.ofChange fnTriadOfSpec)

/-- ITS FALSE NEIGHBOUR: 'it returns false'. Refute it at one input. -/
def fnTriadOfWrong : ChangeSpec := { name := "fnTriadOf", vars := ["loop.example/tonesincircles/impl.triadShapes"], fn := fun _ => fun
  | [d, g1] => { results := [.lit (.bool false)], args := [d], vars := [g1] }
  | _ => none }
def FnTriadOfWrongFalsely : Prop := fnTriadOfRow.holds Tryd.pinned (OpenSpec.ofChange fnTriadOfWrong)

/-- 'laws.FnWalkOf': WHATEVER THE INPUT: true; the input reads as it did. -/
def fnWalkOfSpec : ChangeSpec := { name := "fnWalkOf", vars := ["loop.example/tonesincircles/impl.triadShapes"], fn := fun _ => fun
  | [d, g1] => { results := [.lit (.bool true)], args := [d], vars := [g1] }
  | _ => none }
def fnWalkOfRow : OpenClaim := { program := "ytjlbgccffpkmiaadoor", sum := "7919d23b7fbe6ceb5e082bb40290d3a5e37668b70d9cf05ea09e8e2fb36e2967", func := "loop.example/tonesincircles/laws.FnWalkOf", spec := "fnWalkOf", unfollowed := true, recurses := true, named := ["loop.example/tonesincircles/impl.triadShapes"], apart := false, laid := [("loop.example/tonesincircles/impl.triadShapes", laid_loop_example_tonesincircles_impl_triadShapes)] }
def FnWalkOfSaid : Prop := fnWalkOfRow.holds Tryd.pinned (OpenSpec.ofChange fnWalkOfSpec)

/-- ITS FALSE NEIGHBOUR: 'it returns false'. Refute it at one input. -/
def fnWalkOfWrong : ChangeSpec := { name := "fnWalkOf", vars := ["loop.example/tonesincircles/impl.triadShapes"], fn := fun _ => fun
  | [d, g1] => { results := [.lit (.bool false)], args := [d], vars := [g1] }
  | _ => none }
def FnWalkOfWrongFalsely : Prop := fnWalkOfRow.holds Tryd.pinned (OpenSpec.ofChange fnWalkOfWrong)

/-- 'laws.FnShiftTriad': WHATEVER THE INPUT: true; the input reads as it did. -/
def fnShiftTriadSpec : ChangeSpec := { name := "fnShiftTriad", vars := ["loop.example/tonesincircles/impl.triadShapes"], fn := fun _ => fun
  | [d, g1] => { results := [.lit (.bool true)], args := [d], vars := [g1] }
  | _ => none }
def fnShiftTriadRow : OpenClaim := { program := "ytjlbgccffpkmiaadoor", sum := "7919d23b7fbe6ceb5e082bb40290d3a5e37668b70d9cf05ea09e8e2fb36e2967", func := "loop.example/tonesincircles/laws.FnShiftTriad", spec := "fnShiftTriad", unfollowed := true, recurses := true, named := ["loop.example/tonesincircles/impl.triadShapes"], apart := false, laid := [("loop.example/tonesincircles/impl.triadShapes", laid_loop_example_tonesincircles_impl_triadShapes)] }
def FnShiftTriadSaid : Prop := fnShiftTriadRow.holds Tryd.pinned (OpenSpec.ofChange fnShiftTriadSpec)

/-- ITS FALSE NEIGHBOUR: 'it returns false'. Refute it at one input. -/
def fnShiftTriadWrong : ChangeSpec := { name := "fnShiftTriad", vars := ["loop.example/tonesincircles/impl.triadShapes"], fn := fun _ => fun
  | [d, g1] => { results := [.lit (.bool false)], args := [d], vars := [g1] }
  | _ => none }
def FnShiftTriadWrongFalsely : Prop := fnShiftTriadRow.holds Tryd.pinned (OpenSpec.ofChange fnShiftTriadWrong)

/-- 'laws.FnTurnTriad': WHATEVER THE INPUT: true; the input reads as it did. -/
def fnTurnTriadSpec : ChangeSpec := { name := "fnTurnTriad", vars := ["loop.example/tonesincircles/impl.triadShapes"], fn := fun _ => fun
  | [d, g1] => { results := [.lit (.bool true)], args := [d], vars := [g1] }
  | _ => none }
def fnTurnTriadRow : OpenClaim := { program := "ytjlbgccffpkmiaadoor", sum := "7919d23b7fbe6ceb5e082bb40290d3a5e37668b70d9cf05ea09e8e2fb36e2967", func := "loop.example/tonesincircles/laws.FnTurnTriad", spec := "fnTurnTriad", unfollowed := true, recurses := true, named := ["loop.example/tonesincircles/impl.triadShapes"], apart := false, laid := [("loop.example/tonesincircles/impl.triadShapes", laid_loop_example_tonesincircles_impl_triadShapes)] }
def FnTurnTriadSaid : Prop := fnTurnTriadRow.holds Tryd.pinned (OpenSpec.ofChange fnTurnTriadSpec)

/-- ITS FALSE NEIGHBOUR: 'it returns false'. Refute it at one input. -/
def fnTurnTriadWrong : ChangeSpec := { name := "fnTurnTriad", vars := ["loop.example/tonesincircles/impl.triadShapes"], fn := fun _ => fun
  | [d, g1] => { results := [.lit (.bool false)], args := [d], vars := [g1] }
  | _ => none }
def FnTurnTriadWrongFalsely : Prop := fnTurnTriadRow.holds Tryd.pinned (OpenSpec.ofChange fnTurnTriadWrong)

/- THE SECOND FORM. 'bulk': how many values and letters a reading holds, each counted each time it is reached (what is shared counts as often as it is met; a slice's spare places count too). A statement '..UptoSaid' is the law's where the arguments, and the package variables that the reading takes, are together of bulk at most 1048576: NARROWER than '..Said'. Prove '..Said' where nothing that the law and all that it calls make is longer than what came in: it says more and counts as full. Else prove '..UptoSaid'. A law counts once. -/
mutual
def uptoBulk {H : Type} : DataW H → Nat
  | .lit (.string bytes) => bytes.length + 1
  | .lit _ => 1
  | .nil => 1
  | .ptr d => uptoBulk d + 1
  | .slice elems spare => uptoBulkAll elems + uptoBulkAll spare + 1
  | .agg parts => uptoBulkAll parts + 1
  | .iface _ d => uptoBulk d + 1
  | .map entries => uptoBulkEntries entries + 1
  | .held _ => 1
def uptoBulkAll {H : Type} : List (DataW H) → Nat
  | [] => 0
  | d :: r => uptoBulk d + uptoBulkAll r
def uptoBulkEntries {H : Type} : List (Lit × DataW H) → Nat
  | [] => 0
  | x :: r => uptoBulkEntry x + uptoBulkEntries r
def uptoBulkEntry {H : Type} : Lit × DataW H → Nat
  | (.string bytes, d) => bytes.length + uptoBulk d + 1
  | (_, d) => uptoBulk d + 1
 end
def uptoSmall : (H : Type) → List (DataW H) → Bool := fun _ ds => decide (uptoBulkAll ds ≤ 1048576)
def OpenSpec.upto (s : _root_.Go.ChangeSpec) : _root_.Go.OpenSpec := { _root_.Go.OpenSpec.ofChange s with cond := some uptoSmall }

/-- 'laws.FnValidTriad', WHERE WHAT IT READS IS OF BULK AT MOST 1048576: true; the input reads as it did. -/
def fnValidTriadUptoRow : OpenClaim := { program := "ytjlbgccffpkmiaadoor", sum := "7919d23b7fbe6ceb5e082bb40290d3a5e37668b70d9cf05ea09e8e2fb36e2967", func := "loop.example/tonesincircles/laws.FnValidTriad", spec := "fnValidTriad", named := ["loop.example/tonesincircles/impl.triadShapes"], apart := false, laid := [("loop.example/tonesincircles/impl.triadShapes", laid_loop_example_tonesincircles_impl_triadShapes)], narrowed := true }
def FnValidTriadUptoSaid : Prop := fnValidTriadUptoRow.holds Tryd.pinned (OpenSpec.upto fnValidTriadSpec)

/-- 'laws.FnTriadSet', WHERE WHAT IT READS IS OF BULK AT MOST 1048576: true; the input reads as it did. -/
def fnTriadSetUptoRow : OpenClaim := { program := "ytjlbgccffpkmiaadoor", sum := "7919d23b7fbe6ceb5e082bb40290d3a5e37668b70d9cf05ea09e8e2fb36e2967", func := "loop.example/tonesincircles/laws.FnTriadSet", spec := "fnTriadSet", named := ["loop.example/tonesincircles/impl.triadShapes"], apart := false, laid := [("loop.example/tonesincircles/impl.triadShapes", laid_loop_example_tonesincircles_impl_triadShapes)], narrowed := true }
def FnTriadSetUptoSaid : Prop := fnTriadSetUptoRow.holds Tryd.pinned (OpenSpec.upto fnTriadSetSpec)

/-- 'laws.FnTriadOf', WHERE WHAT IT READS IS OF BULK AT MOST 1048576: true; the input reads as it did. -/
def fnTriadOfUptoRow : OpenClaim := { program := "ytjlbgccffpkmiaadoor", sum := "7919d23b7fbe6ceb5e082bb40290d3a5e37668b70d9cf05ea09e8e2fb36e2967", func := "loop.example/tonesincircles/laws.FnTriadOf", spec := "fnTriadOf", named := ["loop.example/tonesincircles/impl.triadShapes"], apart := false, laid := [("loop.example/tonesincircles/impl.triadShapes", laid_loop_example_tonesincircles_impl_triadShapes)], narrowed := true }
def FnTriadOfUptoSaid : Prop := fnTriadOfUptoRow.holds Tryd.pinned (OpenSpec.upto fnTriadOfSpec)

/-- 'laws.FnWalkOf', WHERE WHAT IT READS IS OF BULK AT MOST 1048576: true; the input reads as it did. -/
def fnWalkOfUptoRow : OpenClaim := { program := "ytjlbgccffpkmiaadoor", sum := "7919d23b7fbe6ceb5e082bb40290d3a5e37668b70d9cf05ea09e8e2fb36e2967", func := "loop.example/tonesincircles/laws.FnWalkOf", spec := "fnWalkOf", unfollowed := true, recurses := true, named := ["loop.example/tonesincircles/impl.triadShapes"], apart := false, laid := [("loop.example/tonesincircles/impl.triadShapes", laid_loop_example_tonesincircles_impl_triadShapes)], narrowed := true }
def FnWalkOfUptoSaid : Prop := fnWalkOfUptoRow.holds Tryd.pinned (OpenSpec.upto fnWalkOfSpec)

/-- 'laws.FnShiftTriad', WHERE WHAT IT READS IS OF BULK AT MOST 1048576: true; the input reads as it did. -/
def fnShiftTriadUptoRow : OpenClaim := { program := "ytjlbgccffpkmiaadoor", sum := "7919d23b7fbe6ceb5e082bb40290d3a5e37668b70d9cf05ea09e8e2fb36e2967", func := "loop.example/tonesincircles/laws.FnShiftTriad", spec := "fnShiftTriad", unfollowed := true, recurses := true, named := ["loop.example/tonesincircles/impl.triadShapes"], apart := false, laid := [("loop.example/tonesincircles/impl.triadShapes", laid_loop_example_tonesincircles_impl_triadShapes)], narrowed := true }
def FnShiftTriadUptoSaid : Prop := fnShiftTriadUptoRow.holds Tryd.pinned (OpenSpec.upto fnShiftTriadSpec)

/-- 'laws.FnTurnTriad', WHERE WHAT IT READS IS OF BULK AT MOST 1048576: true; the input reads as it did. -/
def fnTurnTriadUptoRow : OpenClaim := { program := "ytjlbgccffpkmiaadoor", sum := "7919d23b7fbe6ceb5e082bb40290d3a5e37668b70d9cf05ea09e8e2fb36e2967", func := "loop.example/tonesincircles/laws.FnTurnTriad", spec := "fnTurnTriad", unfollowed := true, recurses := true, named := ["loop.example/tonesincircles/impl.triadShapes"], apart := false, laid := [("loop.example/tonesincircles/impl.triadShapes", laid_loop_example_tonesincircles_impl_triadShapes)], narrowed := true }
def FnTurnTriadUptoSaid : Prop := fnTurnTriadUptoRow.holds Tryd.pinned (OpenSpec.upto fnTurnTriadSpec)

end Rows
end Go.Proofs.YtjlbgccffpkmiaaDoor
