/-
  No cell of these rows narrows 'for every input' (looked for: loops, veiled, ifaces, maps, wideKeys, modest, calm, conditions, laid).
  DERIVED. THE GIVEN ROWS OF THIS SEAT. 9 by the template 'for every input the law returns true; each argument reads behind the call as it read before'; 0 by the template 'total and deterministic' (their statements: YtjgkignnfkbeaaaTotals.lean).
  GIVEN WITH THE SEED: the statements are not yours to turn. If you find one false, say at which input.
  Laid BY PROGRAM, IN A SANDBOX (cutbox-rows.mjs): the forced cells as the released guide's own fill.sh prints them over the translation f613848ab20f7d18… (all of the seat's roots in one cut). By AI agents, Wed Nov 11 2026. No macro, syntax, notation, axiom, sorry.
-/
import Derived.Test.YtjgkignnfkbeaaaChecked
import GoSem.Claim
import GoSem.ClaimJoined
import GoSem.ClaimMapViews
import Derived.JoinedTies
import Derived.KernelRfl
namespace Go.Proofs.Ytjgkignnfkbeaaa
/- THE CELL 'sum', in the pinned program and in every row, IS THE sha256 OF THE DUMP (.gsa) THAT YtjgkignnfkbeaaaProg.lean LOADS. Nothing in Lean hashes anything: it is a label: what it is worth is what the hold of that sum in a sandbox is worth. -/
noncomputable def Try.pinned : Pinned := { name := "ytjgkignnfkbeaaa", sum := "f613848ab20f7d18bd4ff556efdd52e34400def5ad4ff4e1587401a52041f167", checked := Try.checked }
namespace Rows
def none {H : Type} : Left H := { results := [], args := [] }

/-- 'laws.FnFarOf': WHATEVER THE INPUT: true; the input reads as it did. -/
def fnFarOfSpec : ChangeSpec := { name := "fnFarOf", fn := fun _ => fun
  | [d] => { results := [.lit (.bool true)], args := [d] }
  | _ => none }
def fnFarOfRow : OpenClaim := { program := "ytjgkignnfkbeaaa", sum := "f613848ab20f7d18bd4ff556efdd52e34400def5ad4ff4e1587401a52041f167", func := "loop.example/tonesincircles/laws.FnFarOf", spec := "fnFarOf", unfollowed := true, recurses := true, leaving := true, apart := false }
def FnFarOfSaid : Prop := fnFarOfRow.holds Try.pinned (OpenSpec.ofChange fnFarOfSpec)

/-- ITS FALSE NEIGHBOUR: 'it returns false'. Refute it at one input. -/
def fnFarOfWrong : ChangeSpec := { name := "fnFarOf", fn := fun _ => fun
  | [d] => { results := [.lit (.bool false)], args := [d] }
  | _ => none }
def FnFarOfWrongFalsely : Prop := fnFarOfRow.holds Try.pinned (OpenSpec.ofChange fnFarOfWrong)

/-- 'laws.FnNearOf': WHATEVER THE INPUT: true; the input reads as it did. -/
def fnNearOfSpec : ChangeSpec := { name := "fnNearOf", fn := fun _ => fun
  | [d] => { results := [.lit (.bool true)], args := [d] }
  | _ => none }
def fnNearOfRow : OpenClaim := { program := "ytjgkignnfkbeaaa", sum := "f613848ab20f7d18bd4ff556efdd52e34400def5ad4ff4e1587401a52041f167", func := "loop.example/tonesincircles/laws.FnNearOf", spec := "fnNearOf", unfollowed := true, recurses := true, leaving := true, apart := false }
def FnNearOfSaid : Prop := fnNearOfRow.holds Try.pinned (OpenSpec.ofChange fnNearOfSpec)

/-- ITS FALSE NEIGHBOUR: 'it returns false'. Refute it at one input. -/
def fnNearOfWrong : ChangeSpec := { name := "fnNearOf", fn := fun _ => fun
  | [d] => { results := [.lit (.bool false)], args := [d] }
  | _ => none }
def FnNearOfWrongFalsely : Prop := fnNearOfRow.holds Try.pinned (OpenSpec.ofChange fnNearOfWrong)

/-- 'laws.FnStepsTo': WHATEVER THE INPUT: true; the input reads as it did. -/
def fnStepsToSpec : ChangeSpec := { name := "fnStepsTo", fn := fun _ => fun
  | [d] => { results := [.lit (.bool true)], args := [d] }
  | _ => none }
def fnStepsToRow : OpenClaim := { program := "ytjgkignnfkbeaaa", sum := "f613848ab20f7d18bd4ff556efdd52e34400def5ad4ff4e1587401a52041f167", func := "loop.example/tonesincircles/laws.FnStepsTo", spec := "fnStepsTo", unfollowed := true, recurses := true, leaving := true, apart := false }
def FnStepsToSaid : Prop := fnStepsToRow.holds Try.pinned (OpenSpec.ofChange fnStepsToSpec)

/-- ITS FALSE NEIGHBOUR: 'it returns false'. Refute it at one input. -/
def fnStepsToWrong : ChangeSpec := { name := "fnStepsTo", fn := fun _ => fun
  | [d] => { results := [.lit (.bool false)], args := [d] }
  | _ => none }
def FnStepsToWrongFalsely : Prop := fnStepsToRow.holds Try.pinned (OpenSpec.ofChange fnStepsToWrong)

/-- 'laws.FnPathTo': WHATEVER THE INPUT: true; the input reads as it did. -/
def fnPathToSpec : ChangeSpec := { name := "fnPathTo", fn := fun _ => fun
  | [d] => { results := [.lit (.bool true)], args := [d] }
  | _ => none }
def fnPathToRow : OpenClaim := { program := "ytjgkignnfkbeaaa", sum := "f613848ab20f7d18bd4ff556efdd52e34400def5ad4ff4e1587401a52041f167", func := "loop.example/tonesincircles/laws.FnPathTo", spec := "fnPathTo", unfollowed := true, recurses := true, leaving := true, apart := false }
def FnPathToSaid : Prop := fnPathToRow.holds Try.pinned (OpenSpec.ofChange fnPathToSpec)

/-- ITS FALSE NEIGHBOUR: 'it returns false'. Refute it at one input. -/
def fnPathToWrong : ChangeSpec := { name := "fnPathTo", fn := fun _ => fun
  | [d] => { results := [.lit (.bool false)], args := [d] }
  | _ => none }
def FnPathToWrongFalsely : Prop := fnPathToRow.holds Try.pinned (OpenSpec.ofChange fnPathToWrong)

/-- 'laws.FnSmoothOf': WHATEVER THE INPUT: true; the input reads as it did. -/
def fnSmoothOfSpec : ChangeSpec := { name := "fnSmoothOf", fn := fun _ => fun
  | [d] => { results := [.lit (.bool true)], args := [d] }
  | _ => none }
def fnSmoothOfRow : OpenClaim := { program := "ytjgkignnfkbeaaa", sum := "f613848ab20f7d18bd4ff556efdd52e34400def5ad4ff4e1587401a52041f167", func := "loop.example/tonesincircles/laws.FnSmoothOf", spec := "fnSmoothOf", unfollowed := true, recurses := true, leaving := true, apart := false }
def FnSmoothOfSaid : Prop := fnSmoothOfRow.holds Try.pinned (OpenSpec.ofChange fnSmoothOfSpec)

/-- ITS FALSE NEIGHBOUR: 'it returns false'. Refute it at one input. -/
def fnSmoothOfWrong : ChangeSpec := { name := "fnSmoothOf", fn := fun _ => fun
  | [d] => { results := [.lit (.bool false)], args := [d] }
  | _ => none }
def FnSmoothOfWrongFalsely : Prop := fnSmoothOfRow.holds Try.pinned (OpenSpec.ofChange fnSmoothOfWrong)

/-- 'laws.FnExactFarOf': WHATEVER THE INPUT: true; the input reads as it did. -/
def fnExactFarOfSpec : ChangeSpec := { name := "fnExactFarOf", fn := fun _ => fun
  | [d1, d2, d3] => { results := [.lit (.bool true)], args := [d1, d2, d3] }
  | _ => none }
def fnExactFarOfRow : OpenClaim := { program := "ytjgkignnfkbeaaa", sum := "f613848ab20f7d18bd4ff556efdd52e34400def5ad4ff4e1587401a52041f167", func := "loop.example/tonesincircles/laws.FnExactFarOf", spec := "fnExactFarOf", unfollowed := true, recurses := true, leaving := true, apart := false }
def FnExactFarOfSaid : Prop := fnExactFarOfRow.holds Try.pinned (OpenSpec.ofChange fnExactFarOfSpec)

/-- ITS FALSE NEIGHBOUR: 'it returns false'. Refute it at one input. -/
def fnExactFarOfWrong : ChangeSpec := { name := "fnExactFarOf", fn := fun _ => fun
  | [d1, d2, d3] => { results := [.lit (.bool false)], args := [d1, d2, d3] }
  | _ => none }
def FnExactFarOfWrongFalsely : Prop := fnExactFarOfRow.holds Try.pinned (OpenSpec.ofChange fnExactFarOfWrong)

/-- 'laws.FnExactStepsTo': WHATEVER THE INPUT: true; the input reads as it did. -/
def fnExactStepsToSpec : ChangeSpec := { name := "fnExactStepsTo", fn := fun _ => fun
  | [d1, d2, d3] => { results := [.lit (.bool true)], args := [d1, d2, d3] }
  | _ => none }
def fnExactStepsToRow : OpenClaim := { program := "ytjgkignnfkbeaaa", sum := "f613848ab20f7d18bd4ff556efdd52e34400def5ad4ff4e1587401a52041f167", func := "loop.example/tonesincircles/laws.FnExactStepsTo", spec := "fnExactStepsTo", unfollowed := true, recurses := true, leaving := true, apart := false }
def FnExactStepsToSaid : Prop := fnExactStepsToRow.holds Try.pinned (OpenSpec.ofChange fnExactStepsToSpec)

/-- ITS FALSE NEIGHBOUR: 'it returns false'. Refute it at one input. -/
def fnExactStepsToWrong : ChangeSpec := { name := "fnExactStepsTo", fn := fun _ => fun
  | [d1, d2, d3] => { results := [.lit (.bool false)], args := [d1, d2, d3] }
  | _ => none }
def FnExactStepsToWrongFalsely : Prop := fnExactStepsToRow.holds Try.pinned (OpenSpec.ofChange fnExactStepsToWrong)

/-- 'laws.FnExactPathTo': WHATEVER THE INPUT: true; the input reads as it did. -/
def fnExactPathToSpec : ChangeSpec := { name := "fnExactPathTo", fn := fun _ => fun
  | [d1, d2, d3] => { results := [.lit (.bool true)], args := [d1, d2, d3] }
  | _ => none }
def fnExactPathToRow : OpenClaim := { program := "ytjgkignnfkbeaaa", sum := "f613848ab20f7d18bd4ff556efdd52e34400def5ad4ff4e1587401a52041f167", func := "loop.example/tonesincircles/laws.FnExactPathTo", spec := "fnExactPathTo", unfollowed := true, recurses := true, leaving := true, apart := false }
def FnExactPathToSaid : Prop := fnExactPathToRow.holds Try.pinned (OpenSpec.ofChange fnExactPathToSpec)

/-- ITS FALSE NEIGHBOUR: 'it returns false'. Refute it at one input. -/
def fnExactPathToWrong : ChangeSpec := { name := "fnExactPathTo", fn := fun _ => fun
  | [d1, d2, d3] => { results := [.lit (.bool false)], args := [d1, d2, d3] }
  | _ => none }
def FnExactPathToWrongFalsely : Prop := fnExactPathToRow.holds Try.pinned (OpenSpec.ofChange fnExactPathToWrong)

/-- 'laws.FnExactSmoothOf': WHATEVER THE INPUT: true; the input reads as it did. -/
def fnExactSmoothOfSpec : ChangeSpec := { name := "fnExactSmoothOf", fn := fun _ => fun
  | [d1, d2] => { results := [.lit (.bool true)], args := [d1, d2] }
  | _ => none }
def fnExactSmoothOfRow : OpenClaim := { program := "ytjgkignnfkbeaaa", sum := "f613848ab20f7d18bd4ff556efdd52e34400def5ad4ff4e1587401a52041f167", func := "loop.example/tonesincircles/laws.FnExactSmoothOf", spec := "fnExactSmoothOf", unfollowed := true, recurses := true, leaving := true, apart := false }
def FnExactSmoothOfSaid : Prop := fnExactSmoothOfRow.holds Try.pinned (OpenSpec.ofChange fnExactSmoothOfSpec)

/-- ITS FALSE NEIGHBOUR: 'it returns false'. Refute it at one input. -/
def fnExactSmoothOfWrong : ChangeSpec := { name := "fnExactSmoothOf", fn := fun _ => fun
  | [d1, d2] => { results := [.lit (.bool false)], args := [d1, d2] }
  | _ => none }
def FnExactSmoothOfWrongFalsely : Prop := fnExactSmoothOfRow.holds Try.pinned (OpenSpec.ofChange fnExactSmoothOfWrong)

/- THE SECOND FORM. 'bulk': how many values and letters a reading holds, each counted each time it is reached (what is shared counts as often as it is met; a slice's spare places count too). A statement '..UptoSaid' is the law's where the arguments, and the package variables that the reading takes, are together of bulk at most 1048576: NARROWER than '..Said'. Prove '..Said' where nothing that the law and all that it calls make is longer than what came in: it says more and counts as full. Else prove '..UptoSaid'. A law counts once. -/
mutual
def uptoBulk {H : Type} : DataW H → Nat
  | .lit (.string bytes) => bytes.length + 1
  | .lit _ => 1
  | .nil => 1
  | .ptr d => uptoBulk d + 1
  | .slice elems spare => uptoBulkAll elems + uptoBulkAll spare + 1
  | .agg parts => uptoBulkAll parts + 1
  | .iface _ d => uptoBulk d + 1
  | .map entries => uptoBulkEntries entries + 1
  | .held _ => 1
def uptoBulkAll {H : Type} : List (DataW H) → Nat
  | [] => 0
  | d :: r => uptoBulk d + uptoBulkAll r
def uptoBulkEntries {H : Type} : List (Lit × DataW H) → Nat
  | [] => 0
  | x :: r => uptoBulkEntry x + uptoBulkEntries r
def uptoBulkEntry {H : Type} : Lit × DataW H → Nat
  | (.string bytes, d) => bytes.length + uptoBulk d + 1
  | (_, d) => uptoBulk d + 1
 end
def uptoSmall : (H : Type) → List (DataW H) → Bool := fun _ ds => decide (uptoBulkAll ds ≤ 1048576)
def OpenSpec.upto (s : _root_.Go.ChangeSpec) : _root_.Go.OpenSpec := { _root_.Go.OpenSpec.ofChange s with cond := some uptoSmall }

/-- 'laws.FnFarOf', WHERE WHAT IT READS IS OF BULK AT MOST 1048576: true; the input reads as it did. -/
def fnFarOfUptoRow : OpenClaim := { program := "ytjgkignnfkbeaaa", sum := "f613848ab20f7d18bd4ff556efdd52e34400def5ad4ff4e1587401a52041f167", func := "loop.example/tonesincircles/laws.FnFarOf", spec := "fnFarOf", unfollowed := true, recurses := true, leaving := true, apart := false, narrowed := true }
def FnFarOfUptoSaid : Prop := fnFarOfUptoRow.holds Try.pinned (OpenSpec.upto fnFarOfSpec)

/-- 'laws.FnNearOf', WHERE WHAT IT READS IS OF BULK AT MOST 1048576: true; the input reads as it did. -/
def fnNearOfUptoRow : OpenClaim := { program := "ytjgkignnfkbeaaa", sum := "f613848ab20f7d18bd4ff556efdd52e34400def5ad4ff4e1587401a52041f167", func := "loop.example/tonesincircles/laws.FnNearOf", spec := "fnNearOf", unfollowed := true, recurses := true, leaving := true, apart := false, narrowed := true }
def FnNearOfUptoSaid : Prop := fnNearOfUptoRow.holds Try.pinned (OpenSpec.upto fnNearOfSpec)

/-- 'laws.FnStepsTo', WHERE WHAT IT READS IS OF BULK AT MOST 1048576: true; the input reads as it did. -/
def fnStepsToUptoRow : OpenClaim := { program := "ytjgkignnfkbeaaa", sum := "f613848ab20f7d18bd4ff556efdd52e34400def5ad4ff4e1587401a52041f167", func := "loop.example/tonesincircles/laws.FnStepsTo", spec := "fnStepsTo", unfollowed := true, recurses := true, leaving := true, apart := false, narrowed := true }
def FnStepsToUptoSaid : Prop := fnStepsToUptoRow.holds Try.pinned (OpenSpec.upto fnStepsToSpec)

/-- 'laws.FnPathTo', WHERE WHAT IT READS IS OF BULK AT MOST 1048576: true; the input reads as it did. -/
def fnPathToUptoRow : OpenClaim := { program := "ytjgkignnfkbeaaa", sum := "f613848ab20f7d18bd4ff556efdd52e34400def5ad4ff4e1587401a52041f167", func := "loop.example/tonesincircles/laws.FnPathTo", spec := "fnPathTo", unfollowed := true, recurses := true, leaving := true, apart := false, narrowed := true }
def FnPathToUptoSaid : Prop := fnPathToUptoRow.holds Try.pinned (OpenSpec.upto fnPathToSpec)

/-- 'laws.FnSmoothOf', WHERE WHAT IT READS IS OF BULK AT MOST 1048576: true; the input reads as it did. -/
def fnSmoothOfUptoRow : OpenClaim := { program := "ytjgkignnfkbeaaa", sum := "f613848ab20f7d18bd4ff556efdd52e34400def5ad4ff4e1587401a52041f167", func := "loop.example/tonesincircles/laws.FnSmoothOf", spec := "fnSmoothOf", unfollowed := true, recurses := true, leaving := true, apart := false, narrowed := true }
def FnSmoothOfUptoSaid : Prop := fnSmoothOfUptoRow.holds Try.pinned (OpenSpec.upto fnSmoothOfSpec)

/-- 'laws.FnExactFarOf', WHERE WHAT IT READS IS OF BULK AT MOST 1048576: true; the input reads as it did. -/
def fnExactFarOfUptoRow : OpenClaim := { program := "ytjgkignnfkbeaaa", sum := "f613848ab20f7d18bd4ff556efdd52e34400def5ad4ff4e1587401a52041f167", func := "loop.example/tonesincircles/laws.FnExactFarOf", spec := "fnExactFarOf", unfollowed := true, recurses := true, leaving := true, apart := false, narrowed := true }
def FnExactFarOfUptoSaid : Prop := fnExactFarOfUptoRow.holds Try.pinned (OpenSpec.upto fnExactFarOfSpec)

/-- 'laws.FnExactStepsTo', WHERE WHAT IT READS IS OF BULK AT MOST 1048576: true; the input reads as it did. -/
def fnExactStepsToUptoRow : OpenClaim := { program := "ytjgkignnfkbeaaa", sum := "f613848ab20f7d18bd4ff556efdd52e34400def5ad4ff4e1587401a52041f167", func := "loop.example/tonesincircles/laws.FnExactStepsTo", spec := "fnExactStepsTo", unfollowed := true, recurses := true, leaving := true, apart := false, narrowed := true }
def FnExactStepsToUptoSaid : Prop := fnExactStepsToUptoRow.holds Try.pinned (OpenSpec.upto fnExactStepsToSpec)

/-- 'laws.FnExactPathTo', WHERE WHAT IT READS IS OF BULK AT MOST 1048576: true; the input reads as it did. -/
def fnExactPathToUptoRow : OpenClaim := { program := "ytjgkignnfkbeaaa", sum := "f613848ab20f7d18bd4ff556efdd52e34400def5ad4ff4e1587401a52041f167", func := "loop.example/tonesincircles/laws.FnExactPathTo", spec := "fnExactPathTo", unfollowed := true, recurses := true, leaving := true, apart := false, narrowed := true }
def FnExactPathToUptoSaid : Prop := fnExactPathToUptoRow.holds Try.pinned (OpenSpec.upto fnExactPathToSpec)

/-- 'laws.FnExactSmoothOf', WHERE WHAT IT READS IS OF BULK AT MOST 1048576: true; the input reads as it did. -/
def fnExactSmoothOfUptoRow : OpenClaim := { program := "ytjgkignnfkbeaaa", sum := "f613848ab20f7d18bd4ff556efdd52e34400def5ad4ff4e1587401a52041f167", func := "loop.example/tonesincircles/laws.FnExactSmoothOf", spec := "fnExactSmoothOf", unfollowed := true, recurses := true, leaving := true, apart := false, narrowed := true }
def FnExactSmoothOfUptoSaid : Prop := fnExactSmoothOfUptoRow.holds Try.pinned (OpenSpec.upto fnExactSmoothOfSpec)

end Rows
end Go.Proofs.Ytjgkignnfkbeaaa
