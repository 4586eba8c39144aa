/-
  No cell of these rows narrows 'for every input' (looked for: loops, veiled, ifaces, maps, wideKeys, modest, calm, conditions, laid).
  DERIVED. THE GIVEN ROWS OF THIS SEAT. 14 by the template 'for every input the law returns true; each argument reads behind the call as it read before'; 0 by the template 'total and deterministic' (their statements: YtpiaplnhiiiniaaTotals.lean).
  GIVEN WITH THE SEED: the statements are not yours to turn. If you find one false, say at which input.
  Laid BY PROGRAM, IN A SANDBOX (cutbox-rows.mjs): the forced cells as the released guide's own fill.sh prints them over the translation f96b385b9aaaa861… (all of the seat's roots in one cut). By AI agents, Wed Nov 11 2026. No macro, syntax, notation, axiom, sorry.
-/
import Derived.Test.YtpiaplnhiiiniaaChecked
import GoSem.Claim
import GoSem.ClaimJoined
import GoSem.ClaimMapViews
import Derived.JoinedTies
import Derived.KernelRfl
namespace Go.Proofs.Ytpiaplnhiiiniaa
/- THE CELL 'sum', in the pinned program and in every row, IS THE sha256 OF THE DUMP (.gsa) THAT YtpiaplnhiiiniaaProg.lean LOADS. Nothing in Lean hashes anything: it is a label: what it is worth is what the hold of that sum in a sandbox is worth. -/
noncomputable def Try.pinned : Pinned := { name := "ytpiaplnhiiiniaa", sum := "f96b385b9aaaa861eb8933a6d424bbae4b710871056ad723d3a12d5a81aa954d", checked := Try.checked }
namespace Rows
def none {H : Type} : Left H := { results := [], args := [] }

/-- 'laws.FnExactSpreadOf': WHATEVER THE INPUT: true; the input reads as it did. -/
def fnExactSpreadOfSpec : ChangeSpec := { name := "fnExactSpreadOf", fn := fun _ => fun
  | [d1, d2, d3] => { results := [.lit (.bool true)], args := [d1, d2, d3] }
  | _ => none }
def fnExactSpreadOfRow : OpenClaim := { program := "ytpiaplnhiiiniaa", sum := "f96b385b9aaaa861eb8933a6d424bbae4b710871056ad723d3a12d5a81aa954d", func := "loop.example/tonesincircles/laws.FnExactSpreadOf", spec := "fnExactSpreadOf", apart := false }
def FnExactSpreadOfSaid : Prop := fnExactSpreadOfRow.holds Try.pinned (OpenSpec.ofChange fnExactSpreadOfSpec)

/-- ITS FALSE NEIGHBOUR: 'it returns false'. Refute it at one input. -/
def fnExactSpreadOfWrong : ChangeSpec := { name := "fnExactSpreadOf", fn := fun _ => fun
  | [d1, d2, d3] => { results := [.lit (.bool false)], args := [d1, d2, d3] }
  | _ => none }
def FnExactSpreadOfWrongFalsely : Prop := fnExactSpreadOfRow.holds Try.pinned (OpenSpec.ofChange fnExactSpreadOfWrong)

/-- 'laws.FnSpreadOf': WHATEVER THE INPUT: true; the input reads as it did. -/
def fnSpreadOfSpec : ChangeSpec := { name := "fnSpreadOf", fn := fun _ => fun
  | [d] => { results := [.lit (.bool true)], args := [d] }
  | _ => none }
def fnSpreadOfRow : OpenClaim := { program := "ytpiaplnhiiiniaa", sum := "f96b385b9aaaa861eb8933a6d424bbae4b710871056ad723d3a12d5a81aa954d", func := "loop.example/tonesincircles/laws.FnSpreadOf", spec := "fnSpreadOf", inPlace := ["slices.overlaps[int]"], unfollowed := true, recurses := true, apart := false }
def FnSpreadOfSaid : Prop := fnSpreadOfRow.holds Try.pinned (OpenSpec.ofChange fnSpreadOfSpec)

/-- ITS FALSE NEIGHBOUR: 'it returns false'. Refute it at one input. -/
def fnSpreadOfWrong : ChangeSpec := { name := "fnSpreadOf", fn := fun _ => fun
  | [d] => { results := [.lit (.bool false)], args := [d] }
  | _ => none }
def FnSpreadOfWrongFalsely : Prop := fnSpreadOfRow.holds Try.pinned (OpenSpec.ofChange fnSpreadOfWrong)

/-- 'laws.FnExactSizesOf': WHATEVER THE INPUT: true; the input reads as it did. -/
def fnExactSizesOfSpec : ChangeSpec := { name := "fnExactSizesOf", fn := fun _ => fun
  | [d1, d2, d3] => { results := [.lit (.bool true)], args := [d1, d2, d3] }
  | _ => none }
def fnExactSizesOfRow : OpenClaim := { program := "ytpiaplnhiiiniaa", sum := "f96b385b9aaaa861eb8933a6d424bbae4b710871056ad723d3a12d5a81aa954d", func := "loop.example/tonesincircles/laws.FnExactSizesOf", spec := "fnExactSizesOf", inPlace := ["slices.overlaps[int]"], unfollowed := true, recurses := true, apart := false }
def FnExactSizesOfSaid : Prop := fnExactSizesOfRow.holds Try.pinned (OpenSpec.ofChange fnExactSizesOfSpec)

/-- ITS FALSE NEIGHBOUR: 'it returns false'. Refute it at one input. -/
def fnExactSizesOfWrong : ChangeSpec := { name := "fnExactSizesOf", fn := fun _ => fun
  | [d1, d2, d3] => { results := [.lit (.bool false)], args := [d1, d2, d3] }
  | _ => none }
def FnExactSizesOfWrongFalsely : Prop := fnExactSizesOfRow.holds Try.pinned (OpenSpec.ofChange fnExactSizesOfWrong)

/-- 'laws.FnSizesOf': WHATEVER THE INPUT: true; the input reads as it did. -/
def fnSizesOfSpec : ChangeSpec := { name := "fnSizesOf", fn := fun _ => fun
  | [d] => { results := [.lit (.bool true)], args := [d] }
  | _ => none }
def fnSizesOfRow : OpenClaim := { program := "ytpiaplnhiiiniaa", sum := "f96b385b9aaaa861eb8933a6d424bbae4b710871056ad723d3a12d5a81aa954d", func := "loop.example/tonesincircles/laws.FnSizesOf", spec := "fnSizesOf", inPlace := ["slices.overlaps[int]"], unfollowed := true, recurses := true, apart := false }
def FnSizesOfSaid : Prop := fnSizesOfRow.holds Try.pinned (OpenSpec.ofChange fnSizesOfSpec)

/-- ITS FALSE NEIGHBOUR: 'it returns false'. Refute it at one input. -/
def fnSizesOfWrong : ChangeSpec := { name := "fnSizesOf", fn := fun _ => fun
  | [d] => { results := [.lit (.bool false)], args := [d] }
  | _ => none }
def FnSizesOfWrongFalsely : Prop := fnSizesOfRow.holds Try.pinned (OpenSpec.ofChange fnSizesOfWrong)

/-- 'laws.FnExactIsEven': WHATEVER THE INPUT: true; the input reads as it did. -/
def fnExactIsEvenSpec : ChangeSpec := { name := "fnExactIsEven", fn := fun _ => fun
  | [d1, d2] => { results := [.lit (.bool true)], args := [d1, d2] }
  | _ => none }
def fnExactIsEvenRow : OpenClaim := { program := "ytpiaplnhiiiniaa", sum := "f96b385b9aaaa861eb8933a6d424bbae4b710871056ad723d3a12d5a81aa954d", func := "loop.example/tonesincircles/laws.FnExactIsEven", spec := "fnExactIsEven", inPlace := ["slices.overlaps[int]"], unfollowed := true, recurses := true, apart := false }
def FnExactIsEvenSaid : Prop := fnExactIsEvenRow.holds Try.pinned (OpenSpec.ofChange fnExactIsEvenSpec)

/-- ITS FALSE NEIGHBOUR: 'it returns false'. Refute it at one input. -/
def fnExactIsEvenWrong : ChangeSpec := { name := "fnExactIsEven", fn := fun _ => fun
  | [d1, d2] => { results := [.lit (.bool false)], args := [d1, d2] }
  | _ => none }
def FnExactIsEvenWrongFalsely : Prop := fnExactIsEvenRow.holds Try.pinned (OpenSpec.ofChange fnExactIsEvenWrong)

/-- 'laws.FnIsEven': WHATEVER THE INPUT: true; the input reads as it did. -/
def fnIsEvenSpec : ChangeSpec := { name := "fnIsEven", fn := fun _ => fun
  | [d] => { results := [.lit (.bool true)], args := [d] }
  | _ => none }
def fnIsEvenRow : OpenClaim := { program := "ytpiaplnhiiiniaa", sum := "f96b385b9aaaa861eb8933a6d424bbae4b710871056ad723d3a12d5a81aa954d", func := "loop.example/tonesincircles/laws.FnIsEven", spec := "fnIsEven", inPlace := ["slices.overlaps[int]"], unfollowed := true, recurses := true, apart := false }
def FnIsEvenSaid : Prop := fnIsEvenRow.holds Try.pinned (OpenSpec.ofChange fnIsEvenSpec)

/-- ITS FALSE NEIGHBOUR: 'it returns false'. Refute it at one input. -/
def fnIsEvenWrong : ChangeSpec := { name := "fnIsEven", fn := fun _ => fun
  | [d] => { results := [.lit (.bool false)], args := [d] }
  | _ => none }
def FnIsEvenWrongFalsely : Prop := fnIsEvenRow.holds Try.pinned (OpenSpec.ofChange fnIsEvenWrong)

/-- 'laws.FnExactIsDouble': WHATEVER THE INPUT: true; the input reads as it did. -/
def fnExactIsDoubleSpec : ChangeSpec := { name := "fnExactIsDouble", fn := fun _ => fun
  | [d1, d2] => { results := [.lit (.bool true)], args := [d1, d2] }
  | _ => none }
def fnExactIsDoubleRow : OpenClaim := { program := "ytpiaplnhiiiniaa", sum := "f96b385b9aaaa861eb8933a6d424bbae4b710871056ad723d3a12d5a81aa954d", func := "loop.example/tonesincircles/laws.FnExactIsDouble", spec := "fnExactIsDouble", inPlace := ["slices.overlaps[int]"], unfollowed := true, recurses := true, apart := false }
def FnExactIsDoubleSaid : Prop := fnExactIsDoubleRow.holds Try.pinned (OpenSpec.ofChange fnExactIsDoubleSpec)

/-- ITS FALSE NEIGHBOUR: 'it returns false'. Refute it at one input. -/
def fnExactIsDoubleWrong : ChangeSpec := { name := "fnExactIsDouble", fn := fun _ => fun
  | [d1, d2] => { results := [.lit (.bool false)], args := [d1, d2] }
  | _ => none }
def FnExactIsDoubleWrongFalsely : Prop := fnExactIsDoubleRow.holds Try.pinned (OpenSpec.ofChange fnExactIsDoubleWrong)

/-- 'laws.FnIsDouble': WHATEVER THE INPUT: true; the input reads as it did. -/
def fnIsDoubleSpec : ChangeSpec := { name := "fnIsDouble", fn := fun _ => fun
  | [d] => { results := [.lit (.bool true)], args := [d] }
  | _ => none }
def fnIsDoubleRow : OpenClaim := { program := "ytpiaplnhiiiniaa", sum := "f96b385b9aaaa861eb8933a6d424bbae4b710871056ad723d3a12d5a81aa954d", func := "loop.example/tonesincircles/laws.FnIsDouble", spec := "fnIsDouble", inPlace := ["slices.overlaps[int]"], unfollowed := true, recurses := true, apart := false }
def FnIsDoubleSaid : Prop := fnIsDoubleRow.holds Try.pinned (OpenSpec.ofChange fnIsDoubleSpec)

/-- ITS FALSE NEIGHBOUR: 'it returns false'. Refute it at one input. -/
def fnIsDoubleWrong : ChangeSpec := { name := "fnIsDouble", fn := fun _ => fun
  | [d] => { results := [.lit (.bool false)], args := [d] }
  | _ => none }
def FnIsDoubleWrongFalsely : Prop := fnIsDoubleRow.holds Try.pinned (OpenSpec.ofChange fnIsDoubleWrong)

/-- 'laws.FnExactRowsOf': WHATEVER THE INPUT: true; the input reads as it did. -/
def fnExactRowsOfSpec : ChangeSpec := { name := "fnExactRowsOf", fn := fun _ => fun
  | [d1, d2] => { results := [.lit (.bool true)], args := [d1, d2] }
  | _ => none }
def fnExactRowsOfRow : OpenClaim := { program := "ytpiaplnhiiiniaa", sum := "f96b385b9aaaa861eb8933a6d424bbae4b710871056ad723d3a12d5a81aa954d", func := "loop.example/tonesincircles/laws.FnExactRowsOf", spec := "fnExactRowsOf", apart := false }
def FnExactRowsOfSaid : Prop := fnExactRowsOfRow.holds Try.pinned (OpenSpec.ofChange fnExactRowsOfSpec)

/-- ITS FALSE NEIGHBOUR: 'it returns false'. Refute it at one input. -/
def fnExactRowsOfWrong : ChangeSpec := { name := "fnExactRowsOf", fn := fun _ => fun
  | [d1, d2] => { results := [.lit (.bool false)], args := [d1, d2] }
  | _ => none }
def FnExactRowsOfWrongFalsely : Prop := fnExactRowsOfRow.holds Try.pinned (OpenSpec.ofChange fnExactRowsOfWrong)

/-- 'laws.FnRowsOf': WHATEVER THE INPUT: true; the input reads as it did. -/
def fnRowsOfSpec : ChangeSpec := { name := "fnRowsOf", fn := fun _ => fun
  | [d] => { results := [.lit (.bool true)], args := [d] }
  | _ => none }
def fnRowsOfRow : OpenClaim := { program := "ytpiaplnhiiiniaa", sum := "f96b385b9aaaa861eb8933a6d424bbae4b710871056ad723d3a12d5a81aa954d", func := "loop.example/tonesincircles/laws.FnRowsOf", spec := "fnRowsOf", apart := false }
def FnRowsOfSaid : Prop := fnRowsOfRow.holds Try.pinned (OpenSpec.ofChange fnRowsOfSpec)

/-- ITS FALSE NEIGHBOUR: 'it returns false'. Refute it at one input. -/
def fnRowsOfWrong : ChangeSpec := { name := "fnRowsOf", fn := fun _ => fun
  | [d] => { results := [.lit (.bool false)], args := [d] }
  | _ => none }
def FnRowsOfWrongFalsely : Prop := fnRowsOfRow.holds Try.pinned (OpenSpec.ofChange fnRowsOfWrong)

/-- 'laws.FnExactIsDeep': WHATEVER THE INPUT: true; the input reads as it did. -/
def fnExactIsDeepSpec : ChangeSpec := { name := "fnExactIsDeep", fn := fun _ => fun
  | [d1, d2] => { results := [.lit (.bool true)], args := [d1, d2] }
  | _ => none }
def fnExactIsDeepRow : OpenClaim := { program := "ytpiaplnhiiiniaa", sum := "f96b385b9aaaa861eb8933a6d424bbae4b710871056ad723d3a12d5a81aa954d", func := "loop.example/tonesincircles/laws.FnExactIsDeep", spec := "fnExactIsDeep", apart := false }
def FnExactIsDeepSaid : Prop := fnExactIsDeepRow.holds Try.pinned (OpenSpec.ofChange fnExactIsDeepSpec)

/-- ITS FALSE NEIGHBOUR: 'it returns false'. Refute it at one input. -/
def fnExactIsDeepWrong : ChangeSpec := { name := "fnExactIsDeep", fn := fun _ => fun
  | [d1, d2] => { results := [.lit (.bool false)], args := [d1, d2] }
  | _ => none }
def FnExactIsDeepWrongFalsely : Prop := fnExactIsDeepRow.holds Try.pinned (OpenSpec.ofChange fnExactIsDeepWrong)

/-- 'laws.FnIsDeep': WHATEVER THE INPUT: true; the input reads as it did. -/
def fnIsDeepSpec : ChangeSpec := { name := "fnIsDeep", fn := fun _ => fun
  | [d] => { results := [.lit (.bool true)], args := [d] }
  | _ => none }
def fnIsDeepRow : OpenClaim := { program := "ytpiaplnhiiiniaa", sum := "f96b385b9aaaa861eb8933a6d424bbae4b710871056ad723d3a12d5a81aa954d", func := "loop.example/tonesincircles/laws.FnIsDeep", spec := "fnIsDeep", apart := false }
def FnIsDeepSaid : Prop := fnIsDeepRow.holds Try.pinned (OpenSpec.ofChange fnIsDeepSpec)

/-- ITS FALSE NEIGHBOUR: 'it returns false'. Refute it at one input. -/
def fnIsDeepWrong : ChangeSpec := { name := "fnIsDeep", fn := fun _ => fun
  | [d] => { results := [.lit (.bool false)], args := [d] }
  | _ => none }
def FnIsDeepWrongFalsely : Prop := fnIsDeepRow.holds Try.pinned (OpenSpec.ofChange fnIsDeepWrong)

/-- 'laws.FnExactBeatsOf': WHATEVER THE INPUT: true; the input reads as it did. -/
def fnExactBeatsOfSpec : ChangeSpec := { name := "fnExactBeatsOf", fn := fun _ => fun
  | [d1, d2] => { results := [.lit (.bool true)], args := [d1, d2] }
  | _ => none }
def fnExactBeatsOfRow : OpenClaim := { program := "ytpiaplnhiiiniaa", sum := "f96b385b9aaaa861eb8933a6d424bbae4b710871056ad723d3a12d5a81aa954d", func := "loop.example/tonesincircles/laws.FnExactBeatsOf", spec := "fnExactBeatsOf", apart := false }
def FnExactBeatsOfSaid : Prop := fnExactBeatsOfRow.holds Try.pinned (OpenSpec.ofChange fnExactBeatsOfSpec)

/-- ITS FALSE NEIGHBOUR: 'it returns false'. Refute it at one input. -/
def fnExactBeatsOfWrong : ChangeSpec := { name := "fnExactBeatsOf", fn := fun _ => fun
  | [d1, d2] => { results := [.lit (.bool false)], args := [d1, d2] }
  | _ => none }
def FnExactBeatsOfWrongFalsely : Prop := fnExactBeatsOfRow.holds Try.pinned (OpenSpec.ofChange fnExactBeatsOfWrong)

/-- 'laws.FnBeatsOf': WHATEVER THE INPUT: true; the input reads as it did. -/
def fnBeatsOfSpec : ChangeSpec := { name := "fnBeatsOf", fn := fun _ => fun
  | [d] => { results := [.lit (.bool true)], args := [d] }
  | _ => none }
def fnBeatsOfRow : OpenClaim := { program := "ytpiaplnhiiiniaa", sum := "f96b385b9aaaa861eb8933a6d424bbae4b710871056ad723d3a12d5a81aa954d", func := "loop.example/tonesincircles/laws.FnBeatsOf", spec := "fnBeatsOf", inPlace := ["slices.overlaps[int]"], unfollowed := true, recurses := true, apart := false }
def FnBeatsOfSaid : Prop := fnBeatsOfRow.holds Try.pinned (OpenSpec.ofChange fnBeatsOfSpec)

/-- ITS FALSE NEIGHBOUR: 'it returns false'. Refute it at one input. -/
def fnBeatsOfWrong : ChangeSpec := { name := "fnBeatsOf", fn := fun _ => fun
  | [d] => { results := [.lit (.bool false)], args := [d] }
  | _ => none }
def FnBeatsOfWrongFalsely : Prop := fnBeatsOfRow.holds Try.pinned (OpenSpec.ofChange fnBeatsOfWrong)

/- THE SECOND FORM. 'bulk': how many values and letters a reading holds, each counted each time it is reached (what is shared counts as often as it is met; a slice's spare places count too). A statement '..UptoSaid' is the law's where the arguments, and the package variables that the reading takes, are together of bulk at most 1048576: NARROWER than '..Said'. Prove '..Said' where nothing that the law and all that it calls make is longer than what came in: it says more and counts as full. Else prove '..UptoSaid'. A law counts once. -/
mutual
def uptoBulk {H : Type} : DataW H → Nat
  | .lit (.string bytes) => bytes.length + 1
  | .lit _ => 1
  | .nil => 1
  | .ptr d => uptoBulk d + 1
  | .slice elems spare => uptoBulkAll elems + uptoBulkAll spare + 1
  | .agg parts => uptoBulkAll parts + 1
  | .iface _ d => uptoBulk d + 1
  | .map entries => uptoBulkEntries entries + 1
  | .held _ => 1
def uptoBulkAll {H : Type} : List (DataW H) → Nat
  | [] => 0
  | d :: r => uptoBulk d + uptoBulkAll r
def uptoBulkEntries {H : Type} : List (Lit × DataW H) → Nat
  | [] => 0
  | x :: r => uptoBulkEntry x + uptoBulkEntries r
def uptoBulkEntry {H : Type} : Lit × DataW H → Nat
  | (.string bytes, d) => bytes.length + uptoBulk d + 1
  | (_, d) => uptoBulk d + 1
 end
def uptoSmall : (H : Type) → List (DataW H) → Bool := fun _ ds => decide (uptoBulkAll ds ≤ 1048576)
def OpenSpec.upto (s : _root_.Go.ChangeSpec) : _root_.Go.OpenSpec := { _root_.Go.OpenSpec.ofChange s with cond := some uptoSmall }

/-- 'laws.FnExactSpreadOf', WHERE WHAT IT READS IS OF BULK AT MOST 1048576: true; the input reads as it did. -/
def fnExactSpreadOfUptoRow : OpenClaim := { program := "ytpiaplnhiiiniaa", sum := "f96b385b9aaaa861eb8933a6d424bbae4b710871056ad723d3a12d5a81aa954d", func := "loop.example/tonesincircles/laws.FnExactSpreadOf", spec := "fnExactSpreadOf", apart := false, narrowed := true }
def FnExactSpreadOfUptoSaid : Prop := fnExactSpreadOfUptoRow.holds Try.pinned (OpenSpec.upto fnExactSpreadOfSpec)

/-- 'laws.FnSpreadOf', WHERE WHAT IT READS IS OF BULK AT MOST 1048576: true; the input reads as it did. -/
def fnSpreadOfUptoRow : OpenClaim := { program := "ytpiaplnhiiiniaa", sum := "f96b385b9aaaa861eb8933a6d424bbae4b710871056ad723d3a12d5a81aa954d", func := "loop.example/tonesincircles/laws.FnSpreadOf", spec := "fnSpreadOf", inPlace := ["slices.overlaps[int]"], unfollowed := true, recurses := true, apart := false, narrowed := true }
def FnSpreadOfUptoSaid : Prop := fnSpreadOfUptoRow.holds Try.pinned (OpenSpec.upto fnSpreadOfSpec)

/-- 'laws.FnExactSizesOf', WHERE WHAT IT READS IS OF BULK AT MOST 1048576: true; the input reads as it did. -/
def fnExactSizesOfUptoRow : OpenClaim := { program := "ytpiaplnhiiiniaa", sum := "f96b385b9aaaa861eb8933a6d424bbae4b710871056ad723d3a12d5a81aa954d", func := "loop.example/tonesincircles/laws.FnExactSizesOf", spec := "fnExactSizesOf", inPlace := ["slices.overlaps[int]"], unfollowed := true, recurses := true, apart := false, narrowed := true }
def FnExactSizesOfUptoSaid : Prop := fnExactSizesOfUptoRow.holds Try.pinned (OpenSpec.upto fnExactSizesOfSpec)

/-- 'laws.FnSizesOf', WHERE WHAT IT READS IS OF BULK AT MOST 1048576: true; the input reads as it did. -/
def fnSizesOfUptoRow : OpenClaim := { program := "ytpiaplnhiiiniaa", sum := "f96b385b9aaaa861eb8933a6d424bbae4b710871056ad723d3a12d5a81aa954d", func := "loop.example/tonesincircles/laws.FnSizesOf", spec := "fnSizesOf", inPlace := ["slices.overlaps[int]"], unfollowed := true, recurses := true, apart := false, narrowed := true }
def FnSizesOfUptoSaid : Prop := fnSizesOfUptoRow.holds Try.pinned (OpenSpec.upto fnSizesOfSpec)

/-- 'laws.FnExactIsEven', WHERE WHAT IT READS IS OF BULK AT MOST 1048576: true; the input reads as it did. -/
def fnExactIsEvenUptoRow : OpenClaim := { program := "ytpiaplnhiiiniaa", sum := "f96b385b9aaaa861eb8933a6d424bbae4b710871056ad723d3a12d5a81aa954d", func := "loop.example/tonesincircles/laws.FnExactIsEven", spec := "fnExactIsEven", inPlace := ["slices.overlaps[int]"], unfollowed := true, recurses := true, apart := false, narrowed := true }
def FnExactIsEvenUptoSaid : Prop := fnExactIsEvenUptoRow.holds Try.pinned (OpenSpec.upto fnExactIsEvenSpec)

/-- 'laws.FnIsEven', WHERE WHAT IT READS IS OF BULK AT MOST 1048576: true; the input reads as it did. -/
def fnIsEvenUptoRow : OpenClaim := { program := "ytpiaplnhiiiniaa", sum := "f96b385b9aaaa861eb8933a6d424bbae4b710871056ad723d3a12d5a81aa954d", func := "loop.example/tonesincircles/laws.FnIsEven", spec := "fnIsEven", inPlace := ["slices.overlaps[int]"], unfollowed := true, recurses := true, apart := false, narrowed := true }
def FnIsEvenUptoSaid : Prop := fnIsEvenUptoRow.holds Try.pinned (OpenSpec.upto fnIsEvenSpec)

/-- 'laws.FnExactIsDouble', WHERE WHAT IT READS IS OF BULK AT MOST 1048576: true; the input reads as it did. -/
def fnExactIsDoubleUptoRow : OpenClaim := { program := "ytpiaplnhiiiniaa", sum := "f96b385b9aaaa861eb8933a6d424bbae4b710871056ad723d3a12d5a81aa954d", func := "loop.example/tonesincircles/laws.FnExactIsDouble", spec := "fnExactIsDouble", inPlace := ["slices.overlaps[int]"], unfollowed := true, recurses := true, apart := false, narrowed := true }
def FnExactIsDoubleUptoSaid : Prop := fnExactIsDoubleUptoRow.holds Try.pinned (OpenSpec.upto fnExactIsDoubleSpec)

/-- 'laws.FnIsDouble', WHERE WHAT IT READS IS OF BULK AT MOST 1048576: true; the input reads as it did. -/
def fnIsDoubleUptoRow : OpenClaim := { program := "ytpiaplnhiiiniaa", sum := "f96b385b9aaaa861eb8933a6d424bbae4b710871056ad723d3a12d5a81aa954d", func := "loop.example/tonesincircles/laws.FnIsDouble", spec := "fnIsDouble", inPlace := ["slices.overlaps[int]"], unfollowed := true, recurses := true, apart := false, narrowed := true }
def FnIsDoubleUptoSaid : Prop := fnIsDoubleUptoRow.holds Try.pinned (OpenSpec.upto fnIsDoubleSpec)

/-- 'laws.FnExactRowsOf', WHERE WHAT IT READS IS OF BULK AT MOST 1048576: true; the input reads as it did. -/
def fnExactRowsOfUptoRow : OpenClaim := { program := "ytpiaplnhiiiniaa", sum := "f96b385b9aaaa861eb8933a6d424bbae4b710871056ad723d3a12d5a81aa954d", func := "loop.example/tonesincircles/laws.FnExactRowsOf", spec := "fnExactRowsOf", apart := false, narrowed := true }
def FnExactRowsOfUptoSaid : Prop := fnExactRowsOfUptoRow.holds Try.pinned (OpenSpec.upto fnExactRowsOfSpec)

/-- 'laws.FnRowsOf', WHERE WHAT IT READS IS OF BULK AT MOST 1048576: true; the input reads as it did. -/
def fnRowsOfUptoRow : OpenClaim := { program := "ytpiaplnhiiiniaa", sum := "f96b385b9aaaa861eb8933a6d424bbae4b710871056ad723d3a12d5a81aa954d", func := "loop.example/tonesincircles/laws.FnRowsOf", spec := "fnRowsOf", apart := false, narrowed := true }
def FnRowsOfUptoSaid : Prop := fnRowsOfUptoRow.holds Try.pinned (OpenSpec.upto fnRowsOfSpec)

/-- 'laws.FnExactIsDeep', WHERE WHAT IT READS IS OF BULK AT MOST 1048576: true; the input reads as it did. -/
def fnExactIsDeepUptoRow : OpenClaim := { program := "ytpiaplnhiiiniaa", sum := "f96b385b9aaaa861eb8933a6d424bbae4b710871056ad723d3a12d5a81aa954d", func := "loop.example/tonesincircles/laws.FnExactIsDeep", spec := "fnExactIsDeep", apart := false, narrowed := true }
def FnExactIsDeepUptoSaid : Prop := fnExactIsDeepUptoRow.holds Try.pinned (OpenSpec.upto fnExactIsDeepSpec)

/-- 'laws.FnIsDeep', WHERE WHAT IT READS IS OF BULK AT MOST 1048576: true; the input reads as it did. -/
def fnIsDeepUptoRow : OpenClaim := { program := "ytpiaplnhiiiniaa", sum := "f96b385b9aaaa861eb8933a6d424bbae4b710871056ad723d3a12d5a81aa954d", func := "loop.example/tonesincircles/laws.FnIsDeep", spec := "fnIsDeep", apart := false, narrowed := true }
def FnIsDeepUptoSaid : Prop := fnIsDeepUptoRow.holds Try.pinned (OpenSpec.upto fnIsDeepSpec)

/-- 'laws.FnExactBeatsOf', WHERE WHAT IT READS IS OF BULK AT MOST 1048576: true; the input reads as it did. -/
def fnExactBeatsOfUptoRow : OpenClaim := { program := "ytpiaplnhiiiniaa", sum := "f96b385b9aaaa861eb8933a6d424bbae4b710871056ad723d3a12d5a81aa954d", func := "loop.example/tonesincircles/laws.FnExactBeatsOf", spec := "fnExactBeatsOf", apart := false, narrowed := true }
def FnExactBeatsOfUptoSaid : Prop := fnExactBeatsOfUptoRow.holds Try.pinned (OpenSpec.upto fnExactBeatsOfSpec)

/-- 'laws.FnBeatsOf', WHERE WHAT IT READS IS OF BULK AT MOST 1048576: true; the input reads as it did. -/
def fnBeatsOfUptoRow : OpenClaim := { program := "ytpiaplnhiiiniaa", sum := "f96b385b9aaaa861eb8933a6d424bbae4b710871056ad723d3a12d5a81aa954d", func := "loop.example/tonesincircles/laws.FnBeatsOf", spec := "fnBeatsOf", inPlace := ["slices.overlaps[int]"], unfollowed := true, recurses := true, apart := false, narrowed := true }
def FnBeatsOfUptoSaid : Prop := fnBeatsOfUptoRow.holds Try.pinned (OpenSpec.upto fnBeatsOfSpec)

end Rows
end Go.Proofs.Ytpiaplnhiiiniaa
