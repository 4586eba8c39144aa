/-
  No cell of these rows narrows 'for every input' (looked for: loops, veiled, ifaces, maps, wideKeys, modest, calm, conditions, laid).
  DERIVED. THE GIVEN ROWS OF THIS SEAT. 11 by the template 'for every input the law returns true; each argument reads behind the call as it read before'; 0 by the template 'total and deterministic' (their statements: YtchaeiecohldkaaTotals.lean).
  GIVEN WITH THE SEED: the statements are not yours to turn. If you find one false, say at which input.
  Laid BY PROGRAM, IN A SANDBOX (cutbox-rows.mjs): the forced cells as the released guide's own fill.sh prints them over the translation b569defa92f70773… (all of the seat's roots in one cut). By AI agents, Wed Nov 11 2026. No macro, syntax, notation, axiom, sorry.
-/
import Derived.Test.YtchaeiecohldkaaChecked
import GoSem.Claim
import GoSem.ClaimJoined
import GoSem.ClaimMapViews
import Derived.JoinedTies
import Derived.KernelRfl
namespace Go.Proofs.Ytchaeiecohldkaa
/- THE CELL 'sum', in the pinned program and in every row, IS THE sha256 OF THE DUMP (.gsa) THAT YtchaeiecohldkaaProg.lean LOADS. Nothing in Lean hashes anything: it is a label: what it is worth is what the hold of that sum in a sandbox is worth. -/
noncomputable def Try.pinned : Pinned := { name := "ytchaeiecohldkaa", sum := "b569defa92f7077326bb3b043e84c8de181c0424b86c52ef287eda57e55dee69", checked := Try.checked }
namespace Rows
def none {H : Type} : Left H := { results := [], args := [] }

/-- 'laws.FnValidSet': WHATEVER THE INPUT: true; the input reads as it did. -/
def fnValidSetSpec : ChangeSpec := { name := "fnValidSet", fn := fun _ => fun
  | [d] => { results := [.lit (.bool true)], args := [d] }
  | _ => none }
def fnValidSetRow : OpenClaim := { program := "ytchaeiecohldkaa", sum := "b569defa92f7077326bb3b043e84c8de181c0424b86c52ef287eda57e55dee69", func := "loop.example/tonesincircles/laws.FnValidSet", spec := "fnValidSet", plainKeys := false, apart := false }
def FnValidSetSaid : Prop := fnValidSetRow.holds Try.pinned (OpenSpec.ofChange fnValidSetSpec)

/-- ITS FALSE NEIGHBOUR: 'it returns false'. Refute it at one input. -/
def fnValidSetWrong : ChangeSpec := { name := "fnValidSet", fn := fun _ => fun
  | [d] => { results := [.lit (.bool false)], args := [d] }
  | _ => none }
def FnValidSetWrongFalsely : Prop := fnValidSetRow.holds Try.pinned (OpenSpec.ofChange fnValidSetWrong)

/-- 'laws.FnTonesOf': WHATEVER THE INPUT: true; the input reads as it did. -/
def fnTonesOfSpec : ChangeSpec := { name := "fnTonesOf", fn := fun _ => fun
  | [d] => { results := [.lit (.bool true)], args := [d] }
  | _ => none }
def fnTonesOfRow : OpenClaim := { program := "ytchaeiecohldkaa", sum := "b569defa92f7077326bb3b043e84c8de181c0424b86c52ef287eda57e55dee69", func := "loop.example/tonesincircles/laws.FnTonesOf", spec := "fnTonesOf", plainKeys := false, apart := false }
def FnTonesOfSaid : Prop := fnTonesOfRow.holds Try.pinned (OpenSpec.ofChange fnTonesOfSpec)

/-- ITS FALSE NEIGHBOUR: 'it returns false'. Refute it at one input. -/
def fnTonesOfWrong : ChangeSpec := { name := "fnTonesOf", fn := fun _ => fun
  | [d] => { results := [.lit (.bool false)], args := [d] }
  | _ => none }
def FnTonesOfWrongFalsely : Prop := fnTonesOfRow.holds Try.pinned (OpenSpec.ofChange fnTonesOfWrong)

/-- 'laws.FnShiftSet': WHATEVER THE INPUT: true; the input reads as it did. -/
def fnShiftSetSpec : ChangeSpec := { name := "fnShiftSet", fn := fun _ => fun
  | [d] => { results := [.lit (.bool true)], args := [d] }
  | _ => none }
def fnShiftSetRow : OpenClaim := { program := "ytchaeiecohldkaa", sum := "b569defa92f7077326bb3b043e84c8de181c0424b86c52ef287eda57e55dee69", func := "loop.example/tonesincircles/laws.FnShiftSet", spec := "fnShiftSet", plainKeys := false, apart := false }
def FnShiftSetSaid : Prop := fnShiftSetRow.holds Try.pinned (OpenSpec.ofChange fnShiftSetSpec)

/-- ITS FALSE NEIGHBOUR: 'it returns false'. Refute it at one input. -/
def fnShiftSetWrong : ChangeSpec := { name := "fnShiftSet", fn := fun _ => fun
  | [d] => { results := [.lit (.bool false)], args := [d] }
  | _ => none }
def FnShiftSetWrongFalsely : Prop := fnShiftSetRow.holds Try.pinned (OpenSpec.ofChange fnShiftSetWrong)

/-- 'laws.FnTurnSet': WHATEVER THE INPUT: true; the input reads as it did. -/
def fnTurnSetSpec : ChangeSpec := { name := "fnTurnSet", fn := fun _ => fun
  | [d] => { results := [.lit (.bool true)], args := [d] }
  | _ => none }
def fnTurnSetRow : OpenClaim := { program := "ytchaeiecohldkaa", sum := "b569defa92f7077326bb3b043e84c8de181c0424b86c52ef287eda57e55dee69", func := "loop.example/tonesincircles/laws.FnTurnSet", spec := "fnTurnSet", plainKeys := false, apart := false }
def FnTurnSetSaid : Prop := fnTurnSetRow.holds Try.pinned (OpenSpec.ofChange fnTurnSetSpec)

/-- ITS FALSE NEIGHBOUR: 'it returns false'. Refute it at one input. -/
def fnTurnSetWrong : ChangeSpec := { name := "fnTurnSet", fn := fun _ => fun
  | [d] => { results := [.lit (.bool false)], args := [d] }
  | _ => none }
def FnTurnSetWrongFalsely : Prop := fnTurnSetRow.holds Try.pinned (OpenSpec.ofChange fnTurnSetWrong)

/-- 'laws.FnOthersOf': WHATEVER THE INPUT: true; the input reads as it did. -/
def fnOthersOfSpec : ChangeSpec := { name := "fnOthersOf", fn := fun _ => fun
  | [d] => { results := [.lit (.bool true)], args := [d] }
  | _ => none }
def fnOthersOfRow : OpenClaim := { program := "ytchaeiecohldkaa", sum := "b569defa92f7077326bb3b043e84c8de181c0424b86c52ef287eda57e55dee69", func := "loop.example/tonesincircles/laws.FnOthersOf", spec := "fnOthersOf", plainKeys := false, apart := false }
def FnOthersOfSaid : Prop := fnOthersOfRow.holds Try.pinned (OpenSpec.ofChange fnOthersOfSpec)

/-- ITS FALSE NEIGHBOUR: 'it returns false'. Refute it at one input. -/
def fnOthersOfWrong : ChangeSpec := { name := "fnOthersOf", fn := fun _ => fun
  | [d] => { results := [.lit (.bool false)], args := [d] }
  | _ => none }
def FnOthersOfWrongFalsely : Prop := fnOthersOfRow.holds Try.pinned (OpenSpec.ofChange fnOthersOfWrong)

/-- 'laws.FnGapsOf': WHATEVER THE INPUT: true; the input reads as it did. -/
def fnGapsOfSpec : ChangeSpec := { name := "fnGapsOf", fn := fun _ => fun
  | [d] => { results := [.lit (.bool true)], args := [d] }
  | _ => none }
def fnGapsOfRow : OpenClaim := { program := "ytchaeiecohldkaa", sum := "b569defa92f7077326bb3b043e84c8de181c0424b86c52ef287eda57e55dee69", func := "loop.example/tonesincircles/laws.FnGapsOf", spec := "fnGapsOf", plainKeys := false, apart := false }
def FnGapsOfSaid : Prop := fnGapsOfRow.holds Try.pinned (OpenSpec.ofChange fnGapsOfSpec)

/-- ITS FALSE NEIGHBOUR: 'it returns false'. Refute it at one input. -/
def fnGapsOfWrong : ChangeSpec := { name := "fnGapsOf", fn := fun _ => fun
  | [d] => { results := [.lit (.bool false)], args := [d] }
  | _ => none }
def FnGapsOfWrongFalsely : Prop := fnGapsOfRow.holds Try.pinned (OpenSpec.ofChange fnGapsOfWrong)

/-- 'laws.FnCommonOf': WHATEVER THE INPUT: true; the input reads as it did. -/
def fnCommonOfSpec : ChangeSpec := { name := "fnCommonOf", fn := fun _ => fun
  | [d] => { results := [.lit (.bool true)], args := [d] }
  | _ => none }
def fnCommonOfRow : OpenClaim := { program := "ytchaeiecohldkaa", sum := "b569defa92f7077326bb3b043e84c8de181c0424b86c52ef287eda57e55dee69", func := "loop.example/tonesincircles/laws.FnCommonOf", spec := "fnCommonOf", plainKeys := false, apart := false }
def FnCommonOfSaid : Prop := fnCommonOfRow.holds Try.pinned (OpenSpec.ofChange fnCommonOfSpec)

/-- ITS FALSE NEIGHBOUR: 'it returns false'. Refute it at one input. -/
def fnCommonOfWrong : ChangeSpec := { name := "fnCommonOf", fn := fun _ => fun
  | [d] => { results := [.lit (.bool false)], args := [d] }
  | _ => none }
def FnCommonOfWrongFalsely : Prop := fnCommonOfRow.holds Try.pinned (OpenSpec.ofChange fnCommonOfWrong)

/-- 'laws.FnPrimeOf': WHATEVER THE INPUT: true; the input reads as it did. -/
def fnPrimeOfSpec : ChangeSpec := { name := "fnPrimeOf", fn := fun _ => fun
  | [d] => { results := [.lit (.bool true)], args := [d] }
  | _ => none }
def fnPrimeOfRow : OpenClaim := { program := "ytchaeiecohldkaa", sum := "b569defa92f7077326bb3b043e84c8de181c0424b86c52ef287eda57e55dee69", func := "loop.example/tonesincircles/laws.FnPrimeOf", spec := "fnPrimeOf", plainKeys := false, apart := false }
def FnPrimeOfSaid : Prop := fnPrimeOfRow.holds Try.pinned (OpenSpec.ofChange fnPrimeOfSpec)

/-- ITS FALSE NEIGHBOUR: 'it returns false'. Refute it at one input. -/
def fnPrimeOfWrong : ChangeSpec := { name := "fnPrimeOf", fn := fun _ => fun
  | [d] => { results := [.lit (.bool false)], args := [d] }
  | _ => none }
def FnPrimeOfWrongFalsely : Prop := fnPrimeOfRow.holds Try.pinned (OpenSpec.ofChange fnPrimeOfWrong)

/-- 'laws.FnPrimesOf': WHATEVER THE INPUT: true; the input reads as it did. -/
def fnPrimesOfSpec : ChangeSpec := { name := "fnPrimesOf", fn := fun _ => fun
  | [d] => { results := [.lit (.bool true)], args := [d] }
  | _ => none }
def fnPrimesOfRow : OpenClaim := { program := "ytchaeiecohldkaa", sum := "b569defa92f7077326bb3b043e84c8de181c0424b86c52ef287eda57e55dee69", func := "loop.example/tonesincircles/laws.FnPrimesOf", spec := "fnPrimesOf", recurses := true, plainKeys := false, apart := false }
def FnPrimesOfSaid : Prop := fnPrimesOfRow.holds Try.pinned (OpenSpec.ofChange fnPrimesOfSpec)

/-- ITS FALSE NEIGHBOUR: 'it returns false'. Refute it at one input. -/
def fnPrimesOfWrong : ChangeSpec := { name := "fnPrimesOf", fn := fun _ => fun
  | [d] => { results := [.lit (.bool false)], args := [d] }
  | _ => none }
def FnPrimesOfWrongFalsely : Prop := fnPrimesOfRow.holds Try.pinned (OpenSpec.ofChange fnPrimesOfWrong)

/-- 'laws.FnAreTwins': WHATEVER THE INPUT: true; the input reads as it did. -/
def fnAreTwinsSpec : ChangeSpec := { name := "fnAreTwins", fn := fun _ => fun
  | [d] => { results := [.lit (.bool true)], args := [d] }
  | _ => none }
def fnAreTwinsRow : OpenClaim := { program := "ytchaeiecohldkaa", sum := "b569defa92f7077326bb3b043e84c8de181c0424b86c52ef287eda57e55dee69", func := "loop.example/tonesincircles/laws.FnAreTwins", spec := "fnAreTwins", plainKeys := false, apart := false }
def FnAreTwinsSaid : Prop := fnAreTwinsRow.holds Try.pinned (OpenSpec.ofChange fnAreTwinsSpec)

/-- ITS FALSE NEIGHBOUR: 'it returns false'. Refute it at one input. -/
def fnAreTwinsWrong : ChangeSpec := { name := "fnAreTwins", fn := fun _ => fun
  | [d] => { results := [.lit (.bool false)], args := [d] }
  | _ => none }
def FnAreTwinsWrongFalsely : Prop := fnAreTwinsRow.holds Try.pinned (OpenSpec.ofChange fnAreTwinsWrong)

/-- 'laws.FnTwinsOf': WHATEVER THE INPUT: true; the input reads as it did. -/
def fnTwinsOfSpec : ChangeSpec := { name := "fnTwinsOf", fn := fun _ => fun
  | [d] => { results := [.lit (.bool true)], args := [d] }
  | _ => none }
def fnTwinsOfRow : OpenClaim := { program := "ytchaeiecohldkaa", sum := "b569defa92f7077326bb3b043e84c8de181c0424b86c52ef287eda57e55dee69", func := "loop.example/tonesincircles/laws.FnTwinsOf", spec := "fnTwinsOf", recurses := true, plainKeys := false, apart := false }
def FnTwinsOfSaid : Prop := fnTwinsOfRow.holds Try.pinned (OpenSpec.ofChange fnTwinsOfSpec)

/-- ITS FALSE NEIGHBOUR: 'it returns false'. Refute it at one input. -/
def fnTwinsOfWrong : ChangeSpec := { name := "fnTwinsOf", fn := fun _ => fun
  | [d] => { results := [.lit (.bool false)], args := [d] }
  | _ => none }
def FnTwinsOfWrongFalsely : Prop := fnTwinsOfRow.holds Try.pinned (OpenSpec.ofChange fnTwinsOfWrong)

/- THE SECOND FORM. 'bulk': how many values and letters a reading holds, each counted each time it is reached (what is shared counts as often as it is met; a slice's spare places count too). A statement '..UptoSaid' is the law's where the arguments, and the package variables that the reading takes, are together of bulk at most 1048576: NARROWER than '..Said'. Prove '..Said' where nothing that the law and all that it calls make is longer than what came in: it says more and counts as full. Else prove '..UptoSaid'. A law counts once. -/
mutual
def uptoBulk {H : Type} : DataW H → Nat
  | .lit (.string bytes) => bytes.length + 1
  | .lit _ => 1
  | .nil => 1
  | .ptr d => uptoBulk d + 1
  | .slice elems spare => uptoBulkAll elems + uptoBulkAll spare + 1
  | .agg parts => uptoBulkAll parts + 1
  | .iface _ d => uptoBulk d + 1
  | .map entries => uptoBulkEntries entries + 1
  | .held _ => 1
def uptoBulkAll {H : Type} : List (DataW H) → Nat
  | [] => 0
  | d :: r => uptoBulk d + uptoBulkAll r
def uptoBulkEntries {H : Type} : List (Lit × DataW H) → Nat
  | [] => 0
  | x :: r => uptoBulkEntry x + uptoBulkEntries r
def uptoBulkEntry {H : Type} : Lit × DataW H → Nat
  | (.string bytes, d) => bytes.length + uptoBulk d + 1
  | (_, d) => uptoBulk d + 1
 end
def uptoSmall : (H : Type) → List (DataW H) → Bool := fun _ ds => decide (uptoBulkAll ds ≤ 1048576)
def OpenSpec.upto (s : _root_.Go.ChangeSpec) : _root_.Go.OpenSpec := { _root_.Go.OpenSpec.ofChange s with cond := some uptoSmall }

/-- 'laws.FnValidSet', WHERE WHAT IT READS IS OF BULK AT MOST 1048576: true; the input reads as it did. -/
def fnValidSetUptoRow : OpenClaim := { program := "ytchaeiecohldkaa", sum := "b569defa92f7077326bb3b043e84c8de181c0424b86c52ef287eda57e55dee69", func := "loop.example/tonesincircles/laws.FnValidSet", spec := "fnValidSet", plainKeys := false, apart := false, narrowed := true }
def FnValidSetUptoSaid : Prop := fnValidSetUptoRow.holds Try.pinned (OpenSpec.upto fnValidSetSpec)

/-- 'laws.FnTonesOf', WHERE WHAT IT READS IS OF BULK AT MOST 1048576: true; the input reads as it did. -/
def fnTonesOfUptoRow : OpenClaim := { program := "ytchaeiecohldkaa", sum := "b569defa92f7077326bb3b043e84c8de181c0424b86c52ef287eda57e55dee69", func := "loop.example/tonesincircles/laws.FnTonesOf", spec := "fnTonesOf", plainKeys := false, apart := false, narrowed := true }
def FnTonesOfUptoSaid : Prop := fnTonesOfUptoRow.holds Try.pinned (OpenSpec.upto fnTonesOfSpec)

/-- 'laws.FnShiftSet', WHERE WHAT IT READS IS OF BULK AT MOST 1048576: true; the input reads as it did. -/
def fnShiftSetUptoRow : OpenClaim := { program := "ytchaeiecohldkaa", sum := "b569defa92f7077326bb3b043e84c8de181c0424b86c52ef287eda57e55dee69", func := "loop.example/tonesincircles/laws.FnShiftSet", spec := "fnShiftSet", plainKeys := false, apart := false, narrowed := true }
def FnShiftSetUptoSaid : Prop := fnShiftSetUptoRow.holds Try.pinned (OpenSpec.upto fnShiftSetSpec)

/-- 'laws.FnTurnSet', WHERE WHAT IT READS IS OF BULK AT MOST 1048576: true; the input reads as it did. -/
def fnTurnSetUptoRow : OpenClaim := { program := "ytchaeiecohldkaa", sum := "b569defa92f7077326bb3b043e84c8de181c0424b86c52ef287eda57e55dee69", func := "loop.example/tonesincircles/laws.FnTurnSet", spec := "fnTurnSet", plainKeys := false, apart := false, narrowed := true }
def FnTurnSetUptoSaid : Prop := fnTurnSetUptoRow.holds Try.pinned (OpenSpec.upto fnTurnSetSpec)

/-- 'laws.FnOthersOf', WHERE WHAT IT READS IS OF BULK AT MOST 1048576: true; the input reads as it did. -/
def fnOthersOfUptoRow : OpenClaim := { program := "ytchaeiecohldkaa", sum := "b569defa92f7077326bb3b043e84c8de181c0424b86c52ef287eda57e55dee69", func := "loop.example/tonesincircles/laws.FnOthersOf", spec := "fnOthersOf", plainKeys := false, apart := false, narrowed := true }
def FnOthersOfUptoSaid : Prop := fnOthersOfUptoRow.holds Try.pinned (OpenSpec.upto fnOthersOfSpec)

/-- 'laws.FnGapsOf', WHERE WHAT IT READS IS OF BULK AT MOST 1048576: true; the input reads as it did. -/
def fnGapsOfUptoRow : OpenClaim := { program := "ytchaeiecohldkaa", sum := "b569defa92f7077326bb3b043e84c8de181c0424b86c52ef287eda57e55dee69", func := "loop.example/tonesincircles/laws.FnGapsOf", spec := "fnGapsOf", plainKeys := false, apart := false, narrowed := true }
def FnGapsOfUptoSaid : Prop := fnGapsOfUptoRow.holds Try.pinned (OpenSpec.upto fnGapsOfSpec)

/-- 'laws.FnCommonOf', WHERE WHAT IT READS IS OF BULK AT MOST 1048576: true; the input reads as it did. -/
def fnCommonOfUptoRow : OpenClaim := { program := "ytchaeiecohldkaa", sum := "b569defa92f7077326bb3b043e84c8de181c0424b86c52ef287eda57e55dee69", func := "loop.example/tonesincircles/laws.FnCommonOf", spec := "fnCommonOf", plainKeys := false, apart := false, narrowed := true }
def FnCommonOfUptoSaid : Prop := fnCommonOfUptoRow.holds Try.pinned (OpenSpec.upto fnCommonOfSpec)

/-- 'laws.FnPrimeOf', WHERE WHAT IT READS IS OF BULK AT MOST 1048576: true; the input reads as it did. -/
def fnPrimeOfUptoRow : OpenClaim := { program := "ytchaeiecohldkaa", sum := "b569defa92f7077326bb3b043e84c8de181c0424b86c52ef287eda57e55dee69", func := "loop.example/tonesincircles/laws.FnPrimeOf", spec := "fnPrimeOf", plainKeys := false, apart := false, narrowed := true }
def FnPrimeOfUptoSaid : Prop := fnPrimeOfUptoRow.holds Try.pinned (OpenSpec.upto fnPrimeOfSpec)

/-- 'laws.FnPrimesOf', WHERE WHAT IT READS IS OF BULK AT MOST 1048576: true; the input reads as it did. -/
def fnPrimesOfUptoRow : OpenClaim := { program := "ytchaeiecohldkaa", sum := "b569defa92f7077326bb3b043e84c8de181c0424b86c52ef287eda57e55dee69", func := "loop.example/tonesincircles/laws.FnPrimesOf", spec := "fnPrimesOf", recurses := true, plainKeys := false, apart := false, narrowed := true }
def FnPrimesOfUptoSaid : Prop := fnPrimesOfUptoRow.holds Try.pinned (OpenSpec.upto fnPrimesOfSpec)

/-- 'laws.FnAreTwins', WHERE WHAT IT READS IS OF BULK AT MOST 1048576: true; the input reads as it did. -/
def fnAreTwinsUptoRow : OpenClaim := { program := "ytchaeiecohldkaa", sum := "b569defa92f7077326bb3b043e84c8de181c0424b86c52ef287eda57e55dee69", func := "loop.example/tonesincircles/laws.FnAreTwins", spec := "fnAreTwins", plainKeys := false, apart := false, narrowed := true }
def FnAreTwinsUptoSaid : Prop := fnAreTwinsUptoRow.holds Try.pinned (OpenSpec.upto fnAreTwinsSpec)

/-- 'laws.FnTwinsOf', WHERE WHAT IT READS IS OF BULK AT MOST 1048576: true; the input reads as it did. -/
def fnTwinsOfUptoRow : OpenClaim := { program := "ytchaeiecohldkaa", sum := "b569defa92f7077326bb3b043e84c8de181c0424b86c52ef287eda57e55dee69", func := "loop.example/tonesincircles/laws.FnTwinsOf", spec := "fnTwinsOf", recurses := true, plainKeys := false, apart := false, narrowed := true }
def FnTwinsOfUptoSaid : Prop := fnTwinsOfUptoRow.holds Try.pinned (OpenSpec.upto fnTwinsOfSpec)

end Rows
end Go.Proofs.Ytchaeiecohldkaa
